/- The reference of layer 25, third part: Take of a new text. -/
import Derived.Test.YtimiiahhedpfaaaRvS
namespace Go.Proofs.Ytimiiahhedpfaaa
open Go Go.RowKit Go.Maps Go.MapKept Go.ChangeMaps
set_option maxRecDepth 100000

theorem Try.infoR5s : (Try.prog.info? 9).map (fun i => (i.zero, i.size, i.bytes)) = some (some (.string ⟨#[]⟩), 1, 16) := by kernel_rfl
theorem Try.infoR5b : (Try.prog.info? 4).map (fun i => (i.zero, i.size, i.bytes)) = some (some (.bool false), 1, 1) := by kernel_rfl
theorem bR_set (A : Nat → Option ByteArray) (b sz k : Nat) (t : ByteArray) : (bR A b sz).set k (.bool true) = bR (setT A (b + k) t) b sz := by
  apply List.ext_getElem?
  intro i
  rw [List.getElem?_set, bR_len]
  by_cases hi : i < sz
  · rw [bR_get hi, bR_get hi]
    unfold setT
    by_cases e : k = i
    · subst e; rw [if_pos rfl, if_pos hi, if_pos rfl]; rfl
    · rw [if_neg e, if_neg (by omega)]
  · have e1 : (bR (setT A (b + k) t) b sz)[i]? = none := List.getElem?_eq_none (by rw [bR_len]; omega)
    have e2 : (bR A b sz)[i]? = none := List.getElem?_eq_none (by rw [bR_len]; omega)
    rw [e1, e2]
    split
    · rw [if_neg (by omega)]
    · rfl
theorem tR_set (A : Nat → Option ByteArray) (b sz k : Nat) (t : ByteArray) : (tR A b sz).set k (.string t) = tR (setT A (b + k) t) b sz := by
  apply List.ext_getElem?
  intro i
  rw [List.getElem?_set, tR_len]
  by_cases hi : i < sz
  · rw [tR_get hi, tR_get hi]
    unfold setT
    by_cases e : k = i
    · subst e; rw [if_pos rfl, if_pos hi, if_pos rfl]; rfl
    · rw [if_neg e, if_neg (by omega)]
  · have e1 : (tR (setT A (b + k) t) b sz)[i]? = none := List.getElem?_eq_none (by rw [tR_len]; omega)
    have e2 : (tR A b sz)[i]? = none := List.getElem?_eq_none (by rw [tR_len]; omega)
    rw [e1, e2]
    split
    · rw [if_neg (by omega)]
    · rfl
theorem row_at {w : World} {e : TypeId} {v : Value} {xs : List Value} {n : Nat} (h : Row w e v xs) (hl : xs.length = n) (hn : 0 < n) :
    ∃ g off cap, v = .slice (some ⟨g, off, none⟩) n cap ∧ (∀ j u, xs[j]? = some u → w.cell? ⟨g, off + j, none⟩ = some u) ∧ ∀ k, w.frozen? ⟨g, off + k, none⟩ = false := by
  obtain ⟨g, off, cap, rfl, _, _, h4⟩ := h.addr (by omega)
  exact ⟨g, off, cap, by rw [hl], h4, fun k => Row.free h⟩
theorem cell_lt5 {w : World} {p : Addr} {u : Value} (h : w.cell? p = some u) : p.block < w.heap.size := by
  apply Decidable.byContradiction
  intro hn
  have h0 : w.heap[p.block]? = none := Array.getElem?_eq_none (by omega)
  simp [World.cell?, h0] at h
theorem kept_lt5 {S : Nat → Prop} {w w' : World} {v : Value} {xs : List Value} (h : Reads w v xs) (h0 : 0 < xs.length) (ht : Touch S w w') (hn : ∀ g, g < w.heap.size → ¬ S g) : Reads w' v xs := by
  refine h.kept ht (fun g hg => ?_)
  obtain ⟨g', off, cap, rfl, _, _, _, hc⟩ := h.addr h0
  injection hg with hg
  subst hg
  exact hn _ (cell_lt5 (hc 0 xs[0] (by simp)))
/-- What a call made itself. -/
def NewR (w : World) (v : Value) : Prop := ∀ g, v.ownBlock = some g → w.heap.size ≤ g

set_option maxHeartbeats 8000000 in
theorem rrtake_new (f b sz d : Nat) (tv bv : Value) (A : Nat → Option ByteArray) (t : ByteArray) (w : World) (ht : Reads w tv (tR A b sz)) (ha : Reads w bv (bR A b sz)) (hz2 : sz ≤ 32) (_hf : f < 4294967296) (hds : d < sz)
    (hts : t.size ≤ 256) (hno : A (b + d) = none) :
    Calls Try.prog 16 #[.agg #[.int .u32 (numU f b : Nat), tv, bv], .int .u32 (numU f (b + d) : Nat), .string t] w fun e w' =>
      ∃ v3 v4, e = .returned (.tuple #[.agg #[.int .u32 (numU f b : Nat), v3, v4], .bool true]) ∧ Reads w' v3 (tR (setT A (b + d) t) b sz) ∧ Reads w' v4 (bR (setT A (b + d) t) b sz) ∧ NewR w v3 ∧ NewR w v4 ∧ Touch (fun _ => False) w w' := by
  obtain ⟨i0, hi, hz0, hz1, hz2'⟩ := info_parts Try.infoR5s
  obtain ⟨j0, hj, hy0, hy1, hy2⟩ := info_parts Try.infoR5b
  obtain ⟨a2, k2, rfl, hk1, hk2⟩ := ha.form
  obtain ⟨a1, k1, rfl, hj1, hj2⟩ := ht.form
  unfold maxLen at hk2 hj2
  rw [bR_len] at hk1 ha ⊢
  rw [tR_len] at hj1 ht ⊢
  have HA := Lib.hid ha
  have HTX := Lib.hid ht
  have hcmp : ∀ i, i < sz → i ≠ d → ¬ ((numU f b : Int) + (i : Int)) % 4294967296 = (numU f (b + d) : Int) := fun i hi hne h => by unfold numU at h; omega
  have hsame : ((numU f b : Int) + (d : Int)) % 4294967296 = (numU f (b + d) : Int) := by unfold numU; omega
  have HC := Lib.hid hcmp
  have HSM := Lib.hid hsame
  have HNO := Lib.hid hno
  generalize numU f b = nx at *
  generalize numU f (b + d) = u at *
  clear ha ht hcmp hsame hno
  go_enter Try.func16, Try.ntmps16
  go_upto_region 1 with fail
  obtain ⟨x, hx⟩ : ∃ x, x = w.heap.size := ⟨_, rfl⟩
  obtain ⟨rb, hrb⟩ : ∃ x, x = w.heap.size + 1 := ⟨_, rfl⟩
  rw [← hrb, ← hx]
  generalize hw1 : World.alloc (w.alloc _) _ = w1
  have hM1 : MBox w1 x nx (.slice a1 sz k1) (.slice a2 sz k2) := by
    rw [← hw1, hx]
    exact MBox.kept (S := fun _ => False) (Block.new w _ _) ((Touch.refl _ _).alloc _) id
  have hR1 : MBox w1 rb 0 (.slice none 0 0) (.slice none 0 0) := by
    rw [← hw1, hrb, ← alloc_size w]
    exact Block.new _ _ _
  have hT1 : Touch (fun _ => False) w w1 := by rw [← hw1]; exact ((Touch.refl _ w).alloc _).alloc _
  have hlt1 : x < w1.heap.size ∧ rb < w1.heap.size ∧ x ≠ rb ∧ w.heap.size ≤ x ∧ w.heap.size ≤ rb := ⟨Block.lt hM1, Block.lt hR1, by omega, by omega, by omega⟩
  obtain ⟨c0, c1, c2⟩ := hM1.cells
  have HM1 := Lib.hid hM1
  have HR1 := Lib.hid hR1
  have HT1 := Lib.hid hT1
  have HLT := Lib.hid hlt1
  clear hw1 hx hrb hM1 hR1 hT1 hlt1
  have hlI : ¬ (256 : Int) < (t.size : Int) := by omega
  go_wp2_with fail
  go_loopw [8] (fun iv wr => RowKit.Hid (wr = w1) ∧ ∃ i : Nat, i ≤ d ∧ iv = .int .i64 (i : Nat)) (fun iv _ => sz - (RowKit.intOf iv).toNat)
  case atStart => exact ⟨by first | exact Lib.hid rfl | exact Lib.hid trivial, 0, Nat.zero_le _, rfl⟩
  case round =>
    obtain ⟨hw, i, hi9, rfl⟩ := hrel
    obtain rfl := hw.out
    clear hw
    have hltI : (i : Int) < (sz : Int) := by omega
    by_cases hid : i = d
    · obtain ⟨gb, off, k9, hv, _, _, hg, hcell⟩ := (HA.out.still HT1.out).addr (by rw [bR_len]; omega)
      rw [bR_len] at hv
      injection hv with e1 _ e3
      subst e1
      subst e3
      have hx := hcell i _ (bR_get (by omega))
      rw [hid, HNO.out] at hx
      rw [← hid] at hx
      replace hx : wr.cell? ⟨gb, off + i, none⟩ = some (.bool false) := hx
      have hs := HSM.out
      rw [← hid] at hs
      have HID := Lib.hid hid
      clear hcell hid hg
      go_upto_region 7 with fail
      clear hx
      have HSRC := Lib.hid (fun W (hT : Touch (fun _ => False) wr W) => Reads.src ((HTX.out.still HT1.out).still hT) Try.underlying29 (tR_one A b sz))
      have g1 := ((Touch.refl (fun _ => False) wr).alloc (.cells #[] 9)).cell (p := ⟨x, 1, none⟩) c1 id
      have HC2 := Lib.hid c2
      clear c2
      go_upto_region 8 with (at_builtin; refine wpList_append_row _ rfl (.tmp 35) (.tmp 37) 29 29 rfl 9 i0 _ 16 Try.underlying29 hi hz0 hz1 hz2' rfl (.slice (some ⟨wr.heap.size, 0, none⟩) 0 0) [] rfl (by exact .inr ⟨_, 0, 0, #[], rfl, heap_alloc_new wr _, Nat.le_refl _, Nat.zero_le _, Nat.le_refl _, rfl⟩) (.slice a1 sz k1) rfl (tR A b sz).length (tR A b sz) (by exact HSRC.out _ ((Touch.refl _ _).alloc _)) (by rw [tR_len]; unfold maxLen; simp; omega) (by rw [tR_len]; simp; omega) ?_; intro v2 w2 hrow2 hgrow2 hown2; rw [List.nil_append] at hrow2; obtain ⟨a3, q3, hv3, hq3, hr3⟩ := hrow2.form; rw [tR_len] at hv3 hq3; subst hv3; unfold maxLen at hr3; have hT2 : Touch (fun j => wr.heap.size ≤ j) wr w2 := Touch.grown ((Touch.refl (fun j => wr.heap.size ≤ j) wr).alloc _) hgrow2 (fun g hg => Or.inl (by simp [Value.ownBlock] at hg; omega)); have hM2 := HM1.out.kept hT2 (by have := HLT.out; omega); have hR2 := HR1.out.kept hT2 (by have := HLT.out; omega); obtain ⟨c0, c1, c2⟩ := hM2.cells; have f1 := Block.free hM2 1; have hnw : NewR wr (.slice a3 sz q3) := (fun g hg => (by rcases hown2 with e | e <;> (rw [e] at hg; simp [Value.ownBlock] at hg; first | omega | (rw [alloc_size] at hg; omega)))); have HNW := Lib.hid hnw; have HM2 := Lib.hid hM2; have HR2 := Lib.hid hR2; have HT2 := Lib.hid hT2; have HRW := Lib.hid hrow2; clear hM2 hR2 hT2 hrow2 hown2 hgrow2 hnw)
      have hM3 : MBox (w2.setCell ⟨x, 1, none⟩ (.slice a3 sz q3)) x nx (.slice a3 sz q3) (.slice (some ⟨gb, off, none⟩) sz k2) := Block.set HM2.out 1 (.slice a3 sz q3)
      have hT3 : Touch (fun j => j = x) w2 (w2.setCell ⟨x, 1, none⟩ (.slice a3 sz q3)) := (Touch.refl (fun j => j = x) w2).setCell (p := ⟨x, 1, none⟩) (Or.inl rfl) _
      generalize w2.setCell ⟨x, 1, none⟩ (.slice a3 sz q3) = w3 at hM3 hT3 ⊢
      obtain ⟨g7, o7, q7, hv7, hcell7, hfree7⟩ := row_at HRW.out (tR_len A b sz) (by omega)
      injection hv7 with e7 _ e8
      subst e7
      subst e8
      have hg7 : wr.heap.size ≤ g7 := HNW.out g7 rfl
      have hg7' : g7 < w2.heap.size := cell_lt5 (hcell7 0 _ (tR_get (by omega)))
      have HT3 : Hid (Touch (fun j => w.heap.size ≤ j) w w3) := Lib.hid (((HT1.out.mono (fun j e => e.elim)).trans (HT2.out.mono (fun j e => by have := HT1.out.size; omega))).trans (hT3.mono (fun j e => by have := HLT.out; omega)))
      have HM3 := Lib.hid hM3
      have HR3 := Lib.hid (HR2.out.kept hT3 (fun e => by have := HLT.out; omega))
      have HRW3 := Lib.hid (HRW.out.kept hT3 (fun g hg e => by have := HLT.out; simp [Value.ownBlock] at hg; omega))
      have HL3 : Hid (x < wr.heap.size ∧ rb < wr.heap.size ∧ x ≠ rb ∧ w.heap.size ≤ x ∧ w.heap.size ≤ rb ∧ w.heap.size ≤ wr.heap.size ∧ wr.heap.size ≤ g7 ∧ g7 < w3.heap.size ∧ wr.heap.size ≤ w3.heap.size) := Lib.hid (by have := HLT.out; have := HT1.out.size; have := hT3.size; have := HT2.out.size; omega)
      have HSRC2 := Lib.hid (fun W (hT : Touch (fun _ => False) w3 W) => Reads.src ((kept_lt5 HA.out (by rw [bR_len]; omega) HT3.out (fun g hg e => by omega)).still hT) Try.underlying30 (bR_one A b sz))
      clear hM3 hT3 c0 c1 c2 f1 g1 hcell7 hfree7 hg7 hg7' HRW HNW HM2 HR2 HT2 HSRC
      obtain ⟨c0, c1, c2⟩ := HM3.out.cells
      have g2 := ((Touch.refl (fun _ => False) w3).alloc (.cells #[] 4)).cell (p := ⟨x, 2, none⟩) c2 id
      go_upto_region 9 with (at_builtin; refine wpList_append_row _ rfl (.tmp 40) (.tmp 42) 30 30 rfl 4 j0 _ 1 Try.underlying30 hj hy0 hy1 hy2 rfl (.slice (some ⟨w3.heap.size, 0, none⟩) 0 0) [] rfl (by exact .inr ⟨_, 0, 0, #[], rfl, heap_alloc_new w3 _, Nat.le_refl _, Nat.zero_le _, Nat.le_refl _, rfl⟩) (.slice (some ⟨gb, off, none⟩) sz k2) rfl (bR A b sz).length (bR A b sz) (by exact HSRC2.out _ ((Touch.refl _ _).alloc _)) (by rw [bR_len]; unfold maxLen; simp; omega) (by rw [bR_len]; simp; omega) ?_; intro v2 w4 hrow2 hgrow2 hown2; rw [List.nil_append] at hrow2; obtain ⟨a4, q4, hv4, hq4, hr4⟩ := hrow2.form; rw [bR_len] at hv4 hq4; subst hv4; unfold maxLen at hr4; have hT2 : Touch (fun j => w3.heap.size ≤ j) w3 w4 := Touch.grown ((Touch.refl (fun j => w3.heap.size ≤ j) w3).alloc _) hgrow2 (fun g hg => Or.inl (by simp [Value.ownBlock] at hg; omega)); have hM4 := HM3.out.kept hT2 (by have := HL3.out; omega); have hR4 := HR3.out.kept hT2 (by have := HL3.out; omega); have hRW4 := HRW3.out.kept hT2 (fun g hg e => (by have := HL3.out; simp [Value.ownBlock] at hg; omega)); obtain ⟨c0, c1, c2⟩ := hM4.cells; have f2 := Block.free hM4 2; have hnw : NewR w3 (.slice a4 sz q4) := (fun g hg => (by rcases hown2 with e | e <;> (rw [e] at hg; simp [Value.ownBlock] at hg; first | omega | (rw [alloc_size] at hg; omega)))); have HNW := Lib.hid hnw; have HM4 := Lib.hid hM4; have HR4 := Lib.hid hR4; have HT4 := Lib.hid hT2; have HRW4 := Lib.hid hRW4; have HRB4 := Lib.hid hrow2; clear hM4 hR4 hT2 hRW4 hrow2 hown2 hgrow2 hnw)
      have hM5 : MBox (w4.setCell ⟨x, 2, none⟩ (.slice a4 sz q4)) x nx (.slice (some ⟨g7, o7, none⟩) sz q3) (.slice a4 sz q4) := Block.set HM4.out 2 (.slice a4 sz q4)
      have hT5 : Touch (fun j => j = x) w4 (w4.setCell ⟨x, 2, none⟩ (.slice a4 sz q4)) := (Touch.refl (fun j => j = x) w4).setCell (p := ⟨x, 2, none⟩) (Or.inl rfl) _
      generalize w4.setCell ⟨x, 2, none⟩ (.slice a4 sz q4) = w5 at hM5 hT5 ⊢
      obtain ⟨g8, o8, q8, hv8, _, _⟩ := row_at HRB4.out (bR_len A b sz) (by omega)
      injection hv8 with e7 _ e8
      subst e7
      subst e8
      have hg8 : w3.heap.size ≤ g8 := HNW.out g8 rfl
      have HT5 : Hid (Touch (fun j => w.heap.size ≤ j) w w5) := Lib.hid ((HT3.out.trans (HT4.out.mono (fun j e => by have := HL3.out; omega))).trans (hT5.mono (fun j e => by have := HL3.out; omega)))
      have HL5 : Hid (x ≠ rb ∧ w.heap.size ≤ x ∧ w.heap.size ≤ rb ∧ w.heap.size ≤ g7 ∧ w.heap.size ≤ g8 ∧ g7 ≠ g8 ∧ x ≠ g7 ∧ x ≠ g8 ∧ rb ≠ g7 ∧ rb ≠ g8) := Lib.hid (by have := HL3.out; omega)
      have HM5 := Lib.hid hM5
      have HR5 := Lib.hid (HR4.out.kept hT5 (fun e => HL5.out.1 e.symm))
      have HRW5 := Lib.hid (HRW4.out.kept hT5 (fun g hg e => by have := HL5.out; simp [Value.ownBlock] at hg; omega))
      have HRB5 := Lib.hid (HRB4.out.kept hT5 (fun g hg e => by have := HL5.out; simp [Value.ownBlock] at hg; omega))
      clear hM5 hT5 c0 c1 c2 f2 g2 hg8 HNW HRB4 HRW4 HM4 HR4 HT4 HM3 HR3 HT3 HRW3 HSRC2
      obtain ⟨c0, c1, c2⟩ := HM5.out.cells
      obtain ⟨_, _, _, hv9, hcell9, hfree9⟩ := row_at HRW5.out (tR_len A b sz) (by omega)
      injection hv9 with e1 _ e3
      injection e1 with e1
      injection e1 with e1 e2
      subst e1
      subst e2
      have q0 := hcell9 i _ (tR_get (by omega))
      have f0 := hfree9 i
      clear hcell9 hfree9 e3
      go_upto_region 10 with fail
      have hW6 := Row.set HRW5.out (show i < sz by omega) (.string t)
      rw [tR_set] at hW6
      have hT6 : Touch (fun j => j = g7) w5 (w5.setCell ⟨g7, o7 + i, none⟩ (.string t)) := (Touch.refl (fun j => j = g7) w5).setCell (p := ⟨g7, o7 + i, none⟩) (Or.inl rfl) _
      generalize w5.setCell ⟨g7, o7 + i, none⟩ (.string t) = w6 at hW6 hT6 ⊢
      have HM6 := Lib.hid (HM5.out.kept hT6 (by have := HL5.out; omega))
      have HR6 := Lib.hid (HR5.out.kept hT6 (by have := HL5.out; omega))
      have HRB6 := Lib.hid (HRB5.out.kept hT6 (fun g hg e => by have := HL5.out; simp [Value.ownBlock] at hg; omega))
      have HRW6 := Lib.hid hW6
      have HT6 : Hid (Touch (fun j => w.heap.size ≤ j) w w6) := Lib.hid (HT5.out.trans (hT6.mono (fun j e => by have := HL5.out; omega)))
      clear c0 c1 c2 q0 f0 hT6 hW6 HM5 HR5 HRB5 HRW5 HT5
      obtain ⟨c0, c1, c2⟩ := HM6.out.cells
      obtain ⟨_, _, _, hv9, hcell9, hfree9⟩ := row_at HRB6.out (bR_len A b sz) (by omega)
      injection hv9 with e1 _ e3
      injection e1 with e1
      injection e1 with e1 e2
      subst e1
      subst e2
      have q0 := hcell9 i _ (bR_get (by omega))
      have f0 := hfree9 i
      clear hcell9 hfree9 e3
      go_upto_region 11 with fail
      have hW7 := Row.set HRB6.out (show i < sz by omega) (.bool true)
      rw [bR_set A b sz i t] at hW7
      have hT7 : Touch (fun j => j = g8) w6 (w6.setCell ⟨g8, o8 + i, none⟩ (.bool true)) := (Touch.refl (fun j => j = g8) w6).setCell (p := ⟨g8, o8 + i, none⟩) (Or.inl rfl) _
      generalize w6.setCell ⟨g8, o8 + i, none⟩ (.bool true) = w7 at hW7 hT7 ⊢
      have hM7 := HM6.out.kept hT7 (by have := HL5.out; omega)
      have hR7 := HR6.out.kept hT7 (by have := HL5.out; omega)
      have HRW7 := Lib.hid (HRW6.out.kept hT7 (fun g hg e => by have := HL5.out; simp [Value.ownBlock] at hg; omega))
      have HRB7 := Lib.hid hW7
      have HT7 : Hid (Touch (fun j => w.heap.size ≤ j) w w7) := Lib.hid (HT6.out.trans (hT7.mono (fun j e => by have := HL5.out; omega)))
      clear c0 c1 c2 q0 f0 hT7 hW7 HM6 HR6 HRB6 HRW6 HT6
      obtain ⟨c0, c1, c2⟩ := hM7.cells
      obtain ⟨b0, b1, b2⟩ := hR7.cells
      have d0 := Block.free hR7 0
      have d1 := Block.free hR7 1
      have d2 := Block.free hR7 2
      have hM8 := m_set3 (nx' := (nx : Int)) (tv' := .slice (some ⟨g7, o7, none⟩) sz q3) (bv' := .slice (some ⟨g8, o8, none⟩) sz q4) hR7
      have HM8 := Lib.hid hM8
      clear hM7 hR7 hM8
      go_wp2_with fail
      have hT8 := m_touch3 (w := w7) rb (.int .u32 (nx : Int)) (.slice (some ⟨g7, o7, none⟩) sz q3) (.slice (some ⟨g8, o8, none⟩) sz q4)
      refine bodyPost_ret (results_cell_slot rfl _ _ rb _ _ _ _ rfl HM8.out Try.underlying32 rfl Try.sizeR5) rfl ⟨_, _, rfl, ?_, ?_, ?_, ?_, ?_⟩
      · rw [← HID.out]; exact (HRW7.out.kept hT8 (fun g hg e => by have := HL5.out; simp [Value.ownBlock] at hg; omega)).reads
      · rw [← HID.out]; exact (HRB7.out.kept hT8 (fun g hg e => by have := HL5.out; simp [Value.ownBlock] at hg; omega)).reads
      · intro g hg; have := HL5.out; simp [Value.ownBlock] at hg; omega
      · intro g hg; have := HL5.out; simp [Value.ownBlock] at hg; omega
      · exact new_touch (HT7.out.trans (hT8.mono (fun j e => by have := HL5.out; omega)))
    · have hs := HC.out i (by omega) hid
      have hi8 : i < d := by omega
      clear hid
      go_wp2_with fail
      go_roundw
      case rel => exact ⟨by first | exact Lib.hid rfl | exact Lib.hid trivial, i + 1, by omega, by go_num⟩
      case measure => simp [RowKit.intOf]; omega
end Go.Proofs.Ytimiiahhedpfaaa
