/- The reference of layer 24, third part: Fresh. -/
import Derived.Test.YtjlpggffbmcmnaaSdS
namespace Go.Proofs.Ytjlpggffbmcmnaa
open Go Go.RowKit Go.Maps Go.MapKept Go.ChangeMaps
set_option maxRecDepth 100000

/-- Places from s on. -/
def pV (s t : Nat) : List Value := (List.range t).map fun (i : Nat) => Value.int .i64 ((s + i : Nat) : Int)
theorem pV_len (s t : Nat) : (pV s t).length = t := by simp [pV]
theorem pV_snoc (s t : Nat) : pV s (t + 1) = pV s t ++ [.int .i64 ((s + t : Nat) : Int)] := by unfold pV; rw [List.range_succ]; simp
theorem pV_one (s t : Nat) : ∀ u ∈ pV s t, u.oneCell' = true := by
  intro u hu
  simp [pV] at hu
  obtain ⟨_, _, rfl⟩ := hu
  rfl
theorem Try.infoInt : (Try.prog.info? 3).map (fun i => (i.zero, i.size, i.bytes)) = some (some (.int .i64 0), 1, 8) := by kernel_rfl

set_option maxHeartbeats 4000000 in
theorem rfresh_calls (f sz cnt b s : Nat) (sv av : Value) (g : Nat → Bool) (w : World) (hs : Reads w sv (bV cnt fun i => decide (i < s))) (ha : Reads w av (bV cnt g)) (hc : cnt ≤ 64) (hb : b ≤ cnt) (h1 : ∀ i, i < b → g i = true) (h2 : b < cnt → g b = false)
    (hbs : b ≤ s) (hsc : s ≤ cnt) (hss : s ≤ b + sz) (hsz : sz ≤ 32) :
    Calls Try.prog 23 #[.agg #[.int .u32 (f : Nat), .int .i64 (sz : Nat), sv, av]] w fun e w' =>
      ∃ a' k' r, e = .returned (.tuple #[.agg #[.int .u32 (f : Nat), .int .i64 (sz : Nat), .slice a' cnt k', av], r]) ∧ Row w' 4 (.slice a' cnt k') (bV cnt fun i => decide (i < min (b + sz) cnt)) ∧ NewB w (.slice a' cnt k') ∧
        Row w' 3 r (pV s (min (b + sz) cnt - s)) ∧ NewB w r ∧ Touch (fun _ => False) w w' := by
  obtain ⟨i0, hi, hz0, hz1, hz2⟩ := info_parts Try.infoBool
  obtain ⟨j0, hj, hy0, hy1, hy2⟩ := info_parts Try.infoInt
  obtain ⟨a1, k1, rfl, hl1, hl2⟩ := hs.form
  have hbase := fun W hT => rbase_calls f sz cnt b a1 (bV cnt fun i => decide (i < s)).length k1 av g W (ha.still (w' := W) hT) hc hb h1 h2
  obtain ⟨a2, k2, rfl, hk1, hk2⟩ := ha.form
  unfold maxLen at hk2 hl2
  rw [bV_len] at hk1 ha hbase hl1 hs ⊢
  rw [bV_len] at hbase ⊢
  obtain ⟨T, hT⟩ : ∃ T, T = min (b + sz) cnt := ⟨_, rfl⟩
  rw [← hT]
  have hTc : T ≤ cnt := by omega
  have hTs : s ≤ T := by omega
  have HTE := Lib.hid hT
  have HS := Lib.hid hs
  have HBS := Lib.hid hbase
  clear ha h1 h2 hbase hs hT
  go_enter Try.func23, Try.ntmps23
  go_upto_region 1 with fail
  obtain ⟨x, hx⟩ : ∃ x, x = w.heap.size := ⟨_, rfl⟩
  obtain ⟨rb, hrb⟩ : ∃ x, x = w.heap.size + 1 := ⟨_, rfl⟩
  rw [← hrb, ← hx]
  generalize hw1 : World.alloc (w.alloc _) _ = w1
  have hM1 : MAt w1 x f sz (.slice a1 cnt k1) (.slice a2 cnt k2) := by
    rw [← hw1, hx]
    exact MAt.kept (S := fun _ => False) (Block.new w _ _) ((Touch.refl _ _).alloc _) id
  have hR1 : MAt w1 rb 0 0 (.slice none 0 0) (.slice none 0 0) := by
    rw [← hw1, hrb, ← alloc_size w]
    exact Block.new _ _ _
  have hT1 : Touch (fun _ => False) w w1 := by rw [← hw1]; exact ((Touch.refl _ w).alloc _).alloc _
  have hlt1 : x < w1.heap.size ∧ rb < w1.heap.size ∧ x ≠ rb ∧ w.heap.size ≤ x ∧ w.heap.size ≤ rb := ⟨Block.lt hM1, Block.lt hR1, by omega, by omega, by omega⟩
  obtain ⟨c0, c1, c2, c3⟩ := hM1.cells
  have HM1 := Lib.hid hM1
  have HR1 := Lib.hid hR1
  have HT1 := Lib.hid hT1
  have HLT := Lib.hid hlt1
  clear hw1 hx hrb hM1 hR1 hT1 hlt1
  go_upto_region 2 with fail
  go_wp2_with fail
  refine (HBS.out _ HT1.out).mono ?_
  rintro e w2 ⟨rfl, hT2⟩
  have HM2 := Lib.hid (HM1.out.kept hT2 id)
  have HR2 := Lib.hid (HR1.out.kept hT2 id)
  have HT2 := Lib.hid (HT1.out.trans hT2)
  have HLT2 : Hid (x < w2.heap.size ∧ rb < w2.heap.size ∧ x ≠ rb ∧ w.heap.size ≤ x ∧ w.heap.size ≤ rb) := Lib.hid ⟨Nat.lt_of_lt_of_le HLT.out.1 hT2.size, Nat.lt_of_lt_of_le HLT.out.2.1 hT2.size, HLT.out.2.2⟩
  clear c0 c1 c2 c3 hT2
  obtain ⟨c0, c1, c2, c3⟩ := HM2.out.cells
  have HSRC := Lib.hid (fun W (hT : Touch (fun _ => False) w2 W) => Reads.src ((HS.out.still HT2.out).still hT) Try.underlying42 (bV_one cnt fun i => decide (i < s)))
  have g2 := ((Touch.refl (fun _ => False) w2).alloc (.cells #[] 4)).cell (p := ⟨x, 2, none⟩) c2 id
  go_upto_region 3 with fail
  go_wp2_with (at_builtin; refine wpList_append_row _ rfl (.tmp 10) (.tmp 12) 42 42 rfl 4 i0 _ 1 Try.underlying42 hi hz0 hz1 hz2 rfl (.slice (some ⟨w2.heap.size, 0, none⟩) 0 0) [] rfl (by exact .inr ⟨_, 0, 0, #[], rfl, heap_alloc_new w2 _, Nat.le_refl _, Nat.zero_le _, Nat.le_refl _, rfl⟩) (.slice a1 cnt k1) rfl (bV cnt fun i => decide (i < s)).length (bV cnt fun i => decide (i < s)) (by exact HSRC.out _ ((Touch.refl _ _).alloc _)) (by rw [bV_len]; unfold maxLen; simp; omega) (by rw [bV_len]; simp; omega) ?_; intro v3 w3 hrow3 hgrow3 hown3)
  rw [List.nil_append] at hrow3
  have hT3 : Touch (fun j => w2.heap.size ≤ j) w2 w3 := Touch.grown ((Touch.refl (fun j => w2.heap.size ≤ j) w2).alloc _) hgrow3 (fun g hg => Or.inl (by simp [Value.ownBlock] at hg; omega))
  have hnew : ∀ g, v3.ownBlock = some g → w2.heap.size ≤ g := fun g hg => by
    rcases hown3 with e | e
    · rw [e] at hg; simp [Value.ownBlock] at hg; omega
    · rw [e] at hg; injection hg with hg; rw [alloc_size] at hg; omega
  have hlt3 := hrow3.lt
  obtain ⟨a3, k3, hv3, hk3, hk4⟩ := hrow3.form
  rw [bV_len] at hv3 hk3
  subst hv3
  have HROW := Lib.hid hrow3
  have HNEW := Lib.hid (⟨hnew, hlt3⟩ : _ ∧ _)
  have HM3 := Lib.hid (HM2.out.kept hT3 (by have := HLT2.out; omega))
  have HR3 := Lib.hid (HR2.out.kept hT3 (by have := HLT2.out; omega))
  have HT3 := Lib.hid hT3
  clear hrow3 hgrow3 hown3 hnew hlt3 hT3 c0 c1 c2 c3 g2
  unfold maxLen at hk4
  go_loopw [4, 7] (fun rv iv wr => ∃ i : Nat, b ≤ i ∧ i ≤ T ∧ iv = .int .i64 (i : Nat) ∧ RowKit.Hid (Row wr 4 (.slice a3 cnt k3) (bV cnt fun j => decide (j < max s i))) ∧ RowKit.Hid (Row wr 3 rv (pV s (i - s))) ∧ RowKit.Hid (∀ g, rv.ownBlock = some g → w3.heap.size ≤ g) ∧ RowKit.Hid (Touch (fun j => w2.heap.size ≤ j) w3 wr)) (fun _ iv _ => T - (intOf iv).toNat)
  case atStart => exact ⟨b, Nat.le_refl _, by omega, rfl, Lib.hid (by rw [show max s b = s by omega]; exact HROW.out), Lib.hid (by rw [show b - s = 0 by omega]; exact Row.nil _ _), Lib.hid (fun g hg => by simp [Value.ownBlock] at hg), Lib.hid (Touch.refl _ _)⟩
  case round =>
    obtain ⟨i, hi1, hi2, rfl, HRi, HOi, HNi, HTi⟩ := hrel
    have hMi := HM3.out.kept HTi.out (by have := HLT2.out; omega)
    obtain ⟨c0, c1, c2, c3⟩ := hMi.cells
    by_cases hlt : i < T
    · have hic : i < cnt := by omega
      have hltI : (i : Int) < (cnt : Int) := by omega
      have hltI2 : (i : Int) < (b : Int) + (sz : Int) := by have := HTE.out; omega
      obtain ⟨gb, off, k, hv, hcell, hfree⟩ := row_addr HRi.out (bV_len _ _) (by omega)
      injection hv with e1 _ e3
      subst e1
      have hx := hcell i _ (bV_get hic)
      have fx := hfree i
      have hgb := HNEW.out.1 gb rfl
      have hgb2 := HNEW.out.2 gb rfl
      clear hcell hfree e3
      by_cases his : i < s
      · rw [decide_eq_true (show i < max s i by omega)] at hx
        go_wp2_with fail
        go_roundw
        case rel => exact ⟨i + 1, by omega, by omega, by go_num, Lib.hid (by rw [show max s (i + 1) = max s i by omega]; exact HRi.out), Lib.hid (by rw [show i + 1 - s = i - s by omega]; exact HOi.out), HNi, HTi⟩
        case measure => simp [intOf]; omega
      · rw [decide_eq_false (show ¬ i < max s i by omega)] at hx
        go_upto_region 9 with fail
        have hTd : Touch (fun j => j = gb) wr (wr.setCell ⟨gb, off + i, none⟩ (.bool true)) := (Touch.refl (fun j => j = gb) wr).setCell (p := ⟨gb, off + i, none⟩) (Or.inl rfl) _
        have hRd := Row.set HRi.out hic (.bool true)
        rw [bV_set, bV_congr (g' := fun j => decide (j < max s (i + 1))) (fun j _ => by
          by_cases e : j = i
          · rw [if_pos e, decide_eq_true (by omega)]
          · rw [if_neg e, decide_eq_decide]; omega)] at hRd
        have hOd := HOi.out.kept hTd (fun g hg e => by have := HNi.out g hg; omega)
        generalize wr.setCell ⟨gb, off + i, none⟩ (.bool true) = wd at *
        have HRd := Lib.hid hRd
        have HOd := Lib.hid hOd
        have HTd := Lib.hid (HTi.out.trans (hTd.mono (fun j e => by omega)))
        obtain ⟨ar, cap, hu, hu1, hu2⟩ := hOd.form
        rw [pV_len] at hu hu1
        obtain ⟨q, hq⟩ : ∃ q, q = i - s := ⟨_, rfl⟩
        rw [← hq] at hu hu1 HOd
        have hq2 : i + 1 - s = q + 1 := by omega
        have hq3 : s + q = i := by omega
        have HQ := Lib.hid (⟨hq2, hq3⟩ : _ ∧ _)
        have hq64 : q ≤ 64 := by omega
        subst hu
        clear hTd hRd hOd hq hq2 hq3 c0 c1 c2 c3 hx fx
        go_wp2_with (at_builtin; refine wpList_append_row _ rfl (.tmp 38) (.tmp 40) 22 22 rfl 3 j0 _ 8 Try.underlying22 hj hy0 hy1 hy2 rfl (.slice ar q cap) (pV s q) rfl (by exact HOd.out.kept (S := fun _ => False) ((Touch.refl _ _).alloc _) (fun _ _ => id)) (.slice (some ⟨wd.heap.size, 0, none⟩) 1 1) rfl 1 [.int .i64 (i : Int)] (by exact Src.ofCell Try.underlying22 (heap_alloc_new wd _) rfl) (by rw [pV_len]; unfold maxLen; omega) (by rw [pV_len]; omega) ?_; intro v4 w4 hrow4 hgrow4 hown4)
        go_roundw
        case rel =>
          have hsz2 : w3.heap.size ≤ wd.heap.size := HTd.out.size
          have hT4 : Touch (fun j => w3.heap.size ≤ j) wd w4 := Touch.grown ((Touch.refl (fun j => w3.heap.size ≤ j) wd).alloc _) hgrow4 (fun g hg => Or.inl (HNi.out g hg))
          refine ⟨i + 1, by omega, by omega, by go_num, Lib.hid ?_, Lib.hid ?_, Lib.hid (fun g hg => ?_), Lib.hid (HTd.out.trans (hT4.mono (fun j e => by have := HT3.out.size; omega)))⟩
          · exact HRd.out.kept hT4 (fun g hg e => by injection hg with hg; simp at hg; omega)
          · rw [HQ.out.1, pV_snoc, HQ.out.2]; exact hrow4
          · rcases hown4 with e | e
            · exact HNi.out g (e ▸ hg)
            · rw [e] at hg; injection hg with hg; rw [alloc_size] at hg; omega
        case measure => simp [intOf]; omega
    · obtain rfl : i = T := by omega
      have hRbi := HR3.out.kept HTi.out (by have := HLT2.out; omega)
      obtain ⟨d0, d1, d2, d3⟩ := hRbi.cells
      have f2 := Block.free hMi 2
      have q0 := Block.free hRbi 0
      have q1 := Block.free hRbi 1
      have q2 := Block.free hRbi 2
      have q3 := Block.free hRbi 3
      have hne := HLT2.out.2.2.1
      have hne' : rb ≠ x := fun e => hne e.symm
      have hT4 : Touch (fun j => j = x) wr (wr.setCell ⟨x, 2, none⟩ (.slice a3 cnt k3)) := (Touch.refl (fun j => j = x) wr).setCell (p := ⟨x, 2, none⟩) (Or.inl rfl) _
      have hR4 := hRbi.kept hT4 hne'
      have hRf := m_set4 (f' := f) (sz' := sz) (sv' := .slice a3 cnt k3) (av' := .slice a2 cnt k2) hR4
      have hT5 := m_touch4 (w := wr.setCell ⟨x, 2, none⟩ (.slice a3 cnt k3)) rb (.int .u32 (f : Nat)) (.int .i64 (sz : Nat)) (.slice a3 cnt k3) (.slice a2 cnt k2)
      have HRf := Lib.hid hRf
      have HT4 := Lib.hid hT4
      have HT5 := Lib.hid hT5
      clear hRf hT4 hR4 hT5 hMi hRbi
      by_cases h : i < cnt
      · have h1 : (i : Int) < (cnt : Int) := by omega
        have h2 : ¬ (i : Int) < (b : Int) + (sz : Int) := by have := HTE.out; omega
        clear hlt h
        go_wp2_with fail
        refine bodyPost_ret (results_cell_slot rfl _ _ rb _ _ _ _ rfl HRf.out Try.underlying44 rfl Try.sizeRw) rfl ⟨a3, k3, u4, rfl, ?_, fun g hg => by have := HNEW.out.1 g hg; have := HT2.out.size; omega, ?_, fun g hg => by have := HNi.out g hg; have := HT2.out.size; have := HT3.out.size; omega, touch_new ?_⟩
        · have h := (HRi.out.kept HT4.out (fun g hg e => by have := HNEW.out.1 g hg; have := HLT2.out; omega)).kept HT5.out (fun g hg e => by have := HNEW.out.1 g hg; have := HLT2.out; omega)
          rw [show max s i = i by omega] at h
          exact h
        · exact (HOi.out.kept HT4.out (fun g hg e => by have := HNi.out g hg; have := HLT2.out; have := HT3.out.size; omega)).kept HT5.out (fun g hg e => by have := HNi.out g hg; have := HLT2.out; have := HT3.out.size; omega)
        · refine (((HT2.out.mono (fun j e => e.elim)).trans ((HT3.out.trans HTi.out).mono (fun j e => ?_))).trans (HT4.out.mono (fun j e => ?_))).trans (HT5.out.mono (fun j e => ?_))
          · have := HT2.out.size; omega
          · have := HLT2.out; omega
          · have := HLT2.out; omega
      · obtain rfl : i = cnt := by omega
        have h1 : ¬ (i : Int) < (i : Int) := by omega
        clear hlt h
        go_wp2_with fail
        refine bodyPost_ret (results_cell_slot rfl _ _ rb _ _ _ _ rfl HRf.out Try.underlying44 rfl Try.sizeRw) rfl ⟨a3, k3, u4, rfl, ?_, fun g hg => by have := HNEW.out.1 g hg; have := HT2.out.size; omega, ?_, fun g hg => by have := HNi.out g hg; have := HT2.out.size; have := HT3.out.size; omega, touch_new ?_⟩
        · have h := (HRi.out.kept HT4.out (fun g hg e => by have := HNEW.out.1 g hg; have := HLT2.out; omega)).kept HT5.out (fun g hg e => by have := HNEW.out.1 g hg; have := HLT2.out; omega)
          rw [show max s i = i by omega] at h
          exact h
        · exact (HOi.out.kept HT4.out (fun g hg e => by have := HNi.out g hg; have := HLT2.out; have := HT3.out.size; omega)).kept HT5.out (fun g hg e => by have := HNi.out g hg; have := HLT2.out; have := HT3.out.size; omega)
        · refine (((HT2.out.mono (fun j e => e.elim)).trans ((HT3.out.trans HTi.out).mono (fun j e => ?_))).trans (HT4.out.mono (fun j e => ?_))).trans (HT5.out.mono (fun j e => ?_))
          · have := HT2.out.size; omega
          · have := HLT2.out; omega
          · have := HLT2.out; omega
end Go.Proofs.Ytjlpggffbmcmnaa
