/- The reference of layer 24, second part: Forget. -/
import Derived.Test.YtjlpggffbmcmnaaSdR
import Derived.Test.YtjlpggffbmcmnaaSdD
namespace Go.Proofs.Ytjlpggffbmcmnaa
open Go Go.RowKit Go.Maps Go.MapKept Go.ChangeMaps
set_option maxRecDepth 100000

theorem m_set4 {w : World} {x f sz f' sz' : Nat} {sv av sv' av' : Value} (h : MAt w x f sz sv av) :
    MAt ((((w.setCell ⟨x, 0, none⟩ (.int .u32 (f' : Nat))).setCell ⟨x, 1, none⟩ (.int .i64 (sz' : Nat))).setCell ⟨x, 2, none⟩ sv').setCell ⟨x, 3, none⟩ av') x f' sz' sv' av' :=
  Block.set (Block.set (Block.set (Block.set h 0 _) 1 _) 2 _) 3 _
theorem m_touch4 {w : World} (x : Nat) (u0 u1 u2 u3 : Value) : Touch (fun j => j = x) w ((((w.setCell ⟨x, 0, none⟩ u0).setCell ⟨x, 1, none⟩ u1).setCell ⟨x, 2, none⟩ u2).setCell ⟨x, 3, none⟩ u3) :=
  ((((Touch.refl (fun j => j = x) w).setCell (p := ⟨x, 0, none⟩) (Or.inl rfl) _).setCell (p := ⟨x, 1, none⟩) (Or.inl rfl) _).setCell (p := ⟨x, 2, none⟩) (Or.inl rfl) _).setCell (p := ⟨x, 3, none⟩) (Or.inl rfl) _
theorem touch_new {w w' : World} (h : Touch (fun j => w.heap.size ≤ j) w w') : Touch (fun _ => False) w w' :=
  ⟨h.os, h.tape, h.output, h.size, fun k hk _ => h.block k hk (by omega)⟩
theorem row_addr {w : World} {e : TypeId} {v : Value} {xs : List Value} {n : Nat} (h : Row w e v xs) (hl : xs.length = n) (hn : 0 < n) :
    ∃ g off cap, v = .slice (some ⟨g, off, none⟩) n cap ∧ (∀ j u, xs[j]? = some u → w.cell? ⟨g, off + j, none⟩ = some u) ∧ ∀ k, w.frozen? ⟨g, off + k, none⟩ = false := by
  obtain ⟨g, off, cap, rfl, _, _, h4⟩ := h.addr (by omega)
  exact ⟨g, off, cap, by rw [hl], h4, fun k => Row.free h⟩

set_option maxHeartbeats 4000000 in
theorem rforget_calls (f sz cnt b : Nat) (a1 : Option Addr) (n1 k1 : Nat) (av : Value) (g : Nat → Bool) (w : World) (ha : Reads w av (bV cnt g)) (hc : cnt ≤ 64) (hb : b ≤ cnt) (h1 : ∀ i, i < b → g i = true) (h2 : b < cnt → g b = false) :
    Calls Try.prog 27 #[.agg #[.int .u32 (f : Nat), .int .i64 (sz : Nat), .slice a1 n1 k1, av]] w fun e w' =>
      ∃ a' k', e = .returned (.agg #[.int .u32 (f : Nat), .int .i64 (sz : Nat), .slice a1 n1 k1, .slice a' cnt k']) ∧ Row w' 4 (.slice a' cnt k') (bV cnt fun i => decide (i < b)) ∧ NewB w (.slice a' cnt k') ∧ Touch (fun _ => False) w w' := by
  obtain ⟨i0, hi, hz0, hz1, hz2⟩ := info_parts Try.infoBool
  have hbase := fun W hT => rbase_calls f sz cnt b a1 n1 k1 av g W (ha.still (w' := W) hT) hc hb h1 h2
  obtain ⟨a2, k2, rfl, hk1, hk2⟩ := ha.form
  unfold maxLen at hk2
  rw [bV_len] at hk1 ha hbase ⊢
  have HA := Lib.hid ha
  have H1 := Lib.hid h1
  have H2 := Lib.hid h2
  have HBS := Lib.hid hbase
  clear ha h1 h2 hbase
  go_enter Try.func27, Try.ntmps27
  go_upto_region 1 with fail
  obtain ⟨x, hx⟩ : ∃ x, x = w.heap.size := ⟨_, rfl⟩
  obtain ⟨rb, hrb⟩ : ∃ x, x = w.heap.size + 1 := ⟨_, rfl⟩
  rw [← hrb, ← hx]
  generalize hw1 : World.alloc (w.alloc _) _ = w1
  have hM1 : MAt w1 x f sz (.slice a1 n1 k1) (.slice a2 cnt k2) := by
    rw [← hw1, hx]
    exact MAt.kept (S := fun _ => False) (Block.new w _ _) ((Touch.refl _ _).alloc _) id
  have hR1 : MAt w1 rb 0 0 (.slice none 0 0) (.slice none 0 0) := by
    rw [← hw1, hrb, ← alloc_size w]
    exact Block.new _ _ _
  have hT1 : Touch (fun _ => False) w w1 := by rw [← hw1]; exact ((Touch.refl _ w).alloc _).alloc _
  have hlt1 : x < w1.heap.size ∧ rb < w1.heap.size ∧ x ≠ rb ∧ w.heap.size ≤ x ∧ w.heap.size ≤ rb := ⟨Block.lt hM1, Block.lt hR1, by omega, by omega, by omega⟩
  obtain ⟨c0, c1, c2, c3⟩ := hM1.cells
  have HM1 := Lib.hid hM1
  have HR1 := Lib.hid hR1
  have HT1 := Lib.hid hT1
  have HLT := Lib.hid hlt1
  clear hw1 hx hrb hM1 hR1 hT1 hlt1
  have HSRC := Lib.hid (fun W (hT : Touch (fun _ => False) w1 W) => Reads.src ((HA.out.still HT1.out).still hT) Try.underlying42 (bV_one cnt g))
  have g3 := ((Touch.refl (fun _ => False) w1).alloc (.cells #[] 4)).cell (p := ⟨x, 3, none⟩) c3 id
  go_wp2_with (at_builtin; refine wpList_append_row _ rfl (.tmp 5) (.tmp 7) 42 42 rfl 4 i0 _ 1 Try.underlying42 hi hz0 hz1 hz2 rfl (.slice (some ⟨w1.heap.size, 0, none⟩) 0 0) [] rfl (by exact .inr ⟨_, 0, 0, #[], rfl, heap_alloc_new w1 _, Nat.le_refl _, Nat.zero_le _, Nat.le_refl _, rfl⟩) (.slice a2 cnt k2) rfl (bV cnt g).length (bV cnt g) (by exact HSRC.out _ ((Touch.refl _ _).alloc _)) (by rw [bV_len]; unfold maxLen; simp; omega) (by rw [bV_len]; simp; omega) ?_; intro v2 w2 hrow2 hgrow2 hown2; have hT2 : Touch (fun j => w1.heap.size ≤ j) w1 w2 := Touch.grown ((Touch.refl (fun j => w1.heap.size ≤ j) w1).alloc _) hgrow2 (fun g hg => Or.inl (by simp [Value.ownBlock] at hg; omega)); have hM2 := HM1.out.kept hT2 (by have := HLT.out; omega); have hR2 := HR1.out.kept hT2 (by have := HLT.out; omega); obtain ⟨c0, c1, c2, c3⟩ := hM2.cells; have HM2 := Lib.hid hM2; have HR2 := Lib.hid hR2; have HT2 := Lib.hid hT2; clear hM2 hR2 hT2)
  refine (HBS.out _ (HT1.out.trans' HT2.out fun i e => Or.inr (by have := HLT.out; have := HT1.out.size; omega))).mono ?_
  rintro e w3 ⟨rfl, hT3⟩
  rw [List.nil_append] at hrow2
  have hnew : ∀ g, v2.ownBlock = some g → w1.heap.size ≤ g := fun g hg => by
    rcases hown2 with e | e
    · rw [e] at hg; simp [Value.ownBlock] at hg; omega
    · rw [e] at hg; injection hg with hg; rw [alloc_size] at hg; omega
  obtain ⟨a3, k3, hv2, hk3, hk4⟩ := hrow2.form
  rw [bV_len] at hv2 hk3
  subst hv2
  have HROW := Lib.hid (hrow2.kept hT3 (fun _ _ => id))
  have HNEW := Lib.hid hnew
  have HM3 := Lib.hid (HM2.out.kept hT3 id)
  have HR3 := Lib.hid (HR2.out.kept hT3 id)
  have HT3 : Hid (Touch (fun j => w.heap.size ≤ j) w w3) := Lib.hid ((HT1.out.mono (fun _ e => e.elim)).trans ((HT2.out.mono (fun _ e => by have := HT1.out.size; omega)).trans (hT3.mono (fun _ e => e.elim))))
  clear hrow2 hgrow2 hown2 hnew hT3 c0 c1 c2 c3
  unfold maxLen at hk4
  go_wp2_with fail
  go_loopw [4] (fun iv wr => ∃ i : Nat, b ≤ i ∧ i ≤ cnt ∧ iv = .int .i64 (i : Nat) ∧ RowKit.Hid (Row wr 4 (.slice a3 cnt k3) (bV cnt fun j => if b ≤ j ∧ j < i then false else g j)) ∧ RowKit.Hid (Touch (fun j => w1.heap.size ≤ j) w3 wr)) (fun iv _ => cnt - (intOf iv).toNat)
  case atStart => exact ⟨b, Nat.le_refl _, hb, rfl, Lib.hid (by rw [bV_congr (g' := g) (fun j _ => if_neg (by omega))]; exact HROW.out), Lib.hid (Touch.refl _ _)⟩
  case round =>
    obtain ⟨i, hi1, hi2, rfl, HRi, HTi⟩ := hrel
    by_cases hlt : i < cnt
    · have hltI : (i : Int) < (cnt : Int) := by omega
      have hRi := HRi.out
      obtain ⟨gb, off, k, hv, hcell, hfree⟩ := row_addr hRi (bV_len _ _) (by omega)
      injection hv with e1 _ e3
      subst e1
      have hx := hcell i _ (bV_get hlt)
      have fx := hfree i
      have hgb := HNEW.out gb rfl
      clear hcell hfree e3
      go_wp2_with fail
      go_roundw
      case rel =>
        refine ⟨i + 1, by omega, by omega, by go_num, Lib.hid ?_, Lib.hid (HTi.out.setCell (p := ⟨gb, off + i, none⟩) (Or.inl hgb) _)⟩
        have h := Row.set HRi.out hlt (.bool false)
        rw [bV_set] at h
        rw [bV_congr (g' := fun j => if j = i then false else if b ≤ j ∧ j < i then false else g j)]
        · exact h
        · intro j _
          by_cases e : j = i
          · rw [if_pos e, if_pos (by omega)]
          · rw [if_neg e]
            by_cases e2 : b ≤ j ∧ j < i
            · rw [if_pos e2, if_pos (by omega)]
            · rw [if_neg e2, if_neg (by omega)]
      case measure => simp [intOf]; omega
    · obtain rfl : i = cnt := by omega
      have hltI : ¬ (i : Int) < (i : Int) := by omega
      have hMi := HM3.out.kept HTi.out (by have := HLT.out; omega)
      have hRbi := HR3.out.kept HTi.out (by have := HLT.out; omega)
      obtain ⟨c0, c1, c2, c3⟩ := hMi.cells
      obtain ⟨d0, d1, d2, d3⟩ := hRbi.cells
      have f3 := Block.free hMi 3
      have q0 := Block.free hRbi 0
      have q1 := Block.free hRbi 1
      have q2 := Block.free hRbi 2
      have q3 := Block.free hRbi 3
      have hne := HLT.out.2.2.1
      have hne' : rb ≠ x := fun e => hne e.symm
      go_wp2_with fail
      have hT4 : Touch (fun j => j = x) wr (wr.setCell ⟨x, 3, none⟩ (.slice a3 i k3)) := (Touch.refl (fun j => j = x) wr).setCell (p := ⟨x, 3, none⟩) (Or.inl rfl) _
      have hR4 := hRbi.kept hT4 hne'
      have hRf := m_set4 (f' := f) (sz' := sz) (sv' := .slice a1 n1 k1) (av' := .slice a3 i k3) hR4
      have hT5 := m_touch4 (w := wr.setCell ⟨x, 3, none⟩ (.slice a3 i k3)) rb (.int .u32 (f : Nat)) (.int .i64 (sz : Nat)) (.slice a1 n1 k1) (.slice a3 i k3)
      refine bodyPost_ret (results_cell_row rfl _ _ rb _ _ _ _ rfl hRf Try.underlying44 rfl Try.sizeRw) rfl ⟨a3, k3, rfl, ?_, fun g hg => by have := HNEW.out g hg; have := HT1.out.size; omega, touch_new ?_⟩
      · have h := (HRi.out.kept hT4 (fun g hg e => by have := HNEW.out g hg; have := HLT.out; omega)).kept hT5 (fun g hg e => by have := HNEW.out g hg; have := HLT.out; omega)
        rw [bV_congr (g' := fun j => decide (j < b)) (fun j hj => by
          by_cases e : j < b
          · rw [if_neg (by omega), H1.out j e, decide_eq_true e]
          · rw [if_pos (by omega), decide_eq_false e])] at h
        exact h
      · refine ((HT3.out.trans (HTi.out.mono (fun j e => ?_))).trans (hT4.mono (fun j e => ?_))).trans (hT5.mono (fun j e => ?_))
        · have := HT1.out.size; omega
        · have := HLT.out; omega
        · have := HLT.out; omega
end Go.Proofs.Ytjlpggffbmcmnaa
