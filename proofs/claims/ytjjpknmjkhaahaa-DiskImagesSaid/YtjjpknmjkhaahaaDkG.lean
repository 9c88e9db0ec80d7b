
/- Contracts of package disk, sixth part: burns, Write. -/
import Derived.Test.YtjjpknmjkhaahaaDkF
namespace Go.Proofs.Ytjjpknmjkhaahaa
open Go Go.RowKit Go.Maps Go.Shelf
set_option maxRecDepth 100000

theorem burns_no {w : World} {b lb mb c n : Nat} {L : List UInt8} {C : List Ent} {t : Nat} {f : Int} {on : Bool} (h : DkAt w b lb mb c n L C t f on) (hf : f ≠ 0) :
    Calls Try.prog 21 #[.pointer (some ⟨b, 0, none⟩)] w fun e w' => e = .returned (.bool false) ∧ w = w' := by
  obtain ⟨_, _, _, c3, _⟩ := h.cells
  clear h
  have d1 : (f != 0) = true := by simpa using hf
  go_enter Try.func21, Try.ntmps21
  go_wp2
  go_ret
  exact ⟨rfl, rfl⟩
theorem crashL_none (L : List UInt8) (C : List Ent) : crashL L C [] = L := by simp [crashL]
theorem burns_yes {w : World} {b lb mb c n : Nat} {L : List UInt8} {C : List Ent} {t : Nat} (h : DkAt w b lb mb c n L C t 0 true) :
    Calls Try.prog 21 #[.pointer (some ⟨b, 0, none⟩)] w fun e w' => e = .returned (.bool true) ∧ DkAt w' b lb mb c n L [] t (-1) false ∧ Touch (DkS b lb mb) w w' := by
  obtain ⟨_, _, _, c3, _⟩ := h.cells
  have hcr := crash_calls h (.slice none 0 0) [] ⟨none, 0, rfl, Nat.le_refl _, Nat.zero_le _, .inl rfl⟩ (fun h => absurd h (Nat.lt_irrefl _)) (fun z hz => (by cases hz))
  rw [crashL_none] at hcr
  clear h
  go_enter Try.func21, Try.ntmps21
  go_wp2_with (go_at_call 9; refine hcr.mono ?_; rintro e w' ⟨rfl, hd, ht⟩)
  go_ret
  exact ⟨rfl, hd, ht⟩

theorem write_nil (i : Int) (s : ByteArray) (w : World) : Calls Try.prog 12 #[.pointer none, .int .i64 i, .string s] w fun e w' => e = .returned (.int .i64 1) ∧ w = w' := by
  go_enter Try.func12, Try.ntmps12
  go_wp2
  go_ret
  exact ⟨rfl, rfl⟩
theorem write_len (b : Nat) (i : Int) (s : ByteArray) (hs : s.size ≠ 64) (w : World) : Calls Try.prog 12 #[.pointer (some ⟨b, 0, none⟩), .int .i64 i, .string s] w fun e w' => e = .returned (.int .i64 1) ∧ w = w' := by
  have d1 : ((s.size : Int) != 64) = true := by rw [bne_iff_ne]; omega
  clear hs
  go_enter Try.func12, Try.ntmps12
  go_wp2
  go_ret
  exact ⟨rfl, rfl⟩
theorem write_off {w : World} {b lb mb c n : Nat} {L : List UInt8} {C : List Ent} {t : Nat} {f : Int} (h : DkAt w b lb mb c n L C t f false) (i : Int) (s : ByteArray) (hs : s.size = 64) :
    Calls Try.prog 12 #[.pointer (some ⟨b, 0, none⟩), .int .i64 i, .string s] w fun e w' => e = .returned (.int .i64 14) ∧ w = w' := by
  have H := Lib.hid h
  clear h
  have d1 : ((s.size : Int) != 64) = false := by rw [hs]; rfl
  clear hs
  go_enter Try.func12, Try.ntmps12
  go_wp2_with (go_at_call 24; refine (check_off H.out _).mono ?_; rintro e w' ⟨rfl, rfl⟩)
  go_ret
  exact ⟨rfl, rfl⟩
theorem write_bad {w : World} {b lb mb c n : Nat} {L : List UInt8} {C : List Ent} {t : Nat} {f : Int} (h : DkAt w b lb mb c n L C t f true) (i : Int) (s : ByteArray) (hs : s.size = 64) (hi : i < 0 ∨ n ≤ i) :
    Calls Try.prog 12 #[.pointer (some ⟨b, 0, none⟩), .int .i64 i, .string s] w fun e w' => e = .returned (.int .i64 20) ∧ w = w' := by
  have H := Lib.hid h
  have HI := Lib.hid hi
  clear h hi
  have d1 : ((s.size : Int) != 64) = false := by rw [hs]; rfl
  clear hs
  go_enter Try.func12, Try.ntmps12
  go_wp2_with (go_at_call 24; refine (check_bad H.out _ HI.out).mono ?_; rintro e w' ⟨rfl, rfl⟩)
  go_ret
  exact ⟨rfl, rfl⟩
theorem write_burn {w : World} {b lb mb c n : Nat} {L : List UInt8} {C : List Ent} {t : Nat} (h : DkAt w b lb mb c n L C t 0 true) (i : Nat) (s : ByteArray) (hs : s.size = 64) (hi : i < n) :
    Calls Try.prog 12 #[.pointer (some ⟨b, 0, none⟩), .int .i64 i, .string s] w fun e w' => e = .returned (.int .i64 14) ∧ DkAt w' b lb mb c n L [] t (-1) false ∧ Touch (DkS b lb mb) w w' := by
  have H := Lib.hid h
  clear h
  have d1 : ((s.size : Int) != 64) = false := by rw [hs]; rfl
  clear hs
  go_enter Try.func12, Try.ntmps12
  go_wp2_with (first
    | (go_at_call 24; refine (check_ok H.out _ hi).mono ?_; rintro e w' ⟨rfl, rfl⟩)
    | (go_at_call 21; refine (burns_yes H.out).mono ?_; rintro e w' ⟨rfl, hd, ht⟩))
  go_ret
  exact ⟨rfl, hd, ht⟩

theorem sclone_calls (s : ByteArray) (w : World) (hs : s.size = 64) : Calls Try.prog 25 #[.string s] w fun e w' => e = .returned (.string s) ∧ Touch (fun _ => False) w w' := by
  have hcon : ∀ W, Calls Try.prog 32 #[.string s] W fun e w' => e = .returned (.string s) ∧ RowKit.Below W.heap.size W w' := fun W => Any.stringslite_Clone Try.dkStrClone s W (by omega)
  clear hs
  go_enter Try.func25, Try.ntmps25
  go_wp2_with (go_at_call 32; refine (hcon _).mono ?_; rintro e w' ⟨rfl, hB⟩)
  go_ret
  exact ⟨rfl, ⟨hB.os, hB.tape, hB.output, hB.size, fun k hk _ => hB.block k hk⟩⟩

/-- A fuse behind a Write. -/
def burnF (f : Int) : Int := if 0 < f then f - 1 else f
theorem DkAt.setT {w : World} {b lb mb c n : Nat} {L : List UInt8} {C : List Ent} {t : Nat} {f : Int} {on : Bool} (h : DkAt w b lb mb c n L C t f on) (t' : Nat) (h1 : t ≤ t') (h2 : t' ≤ 1000000) : DkAt (w.setCell ⟨b, 2, none⟩ (.int .i64 t')) b lb mb c n L C t' f on := by
  have hT : Touch (fun k => k = b) w (w.setCell ⟨b, 2, none⟩ (.int .i64 t')) := (Touch.refl (fun k => k = b) w).setCell (p := ⟨b, 2, none⟩) (Or.inl rfl) _
  exact { h with box := h.box.set 2 _, row := h.row.kept hT (fun g hg => by simp [Value.ownBlock] at hg; subst hg; exact h.ne), map := (h.map.kept hT h.mne.1).mono h1, ents := fun e he => ⟨(h.ents e he).1, (h.ents e he).2.1, Nat.le_trans (h.ents e he).2.2 h1⟩, t2 := h2 }
theorem ents_put {n t : Nat} {C : List Ent} (h : ∀ e ∈ C, e.k < n ∧ e.s.size = 64 ∧ e.t ≤ t) {i : Nat} (hi : i < n) {s : ByteArray} (hs : s.size = 64) : ∀ e ∈ putE C i s (t + 1), e.k < n ∧ e.s.size = 64 ∧ e.t ≤ t + 1 := by
  intro e he
  rcases List.mem_append.1 he with he | he
  · obtain ⟨a1, a2, a3⟩ := h e (List.mem_filter.1 he).1
    exact ⟨a1, a2, by omega⟩
  · obtain rfl : e = ⟨i, s, t + 1⟩ := by simpa using he
    exact ⟨hi, hs, Nat.le_refl _⟩

set_option maxHeartbeats 800000 in
/-- The Write itself, with a fuse or without. -/
theorem write_ok {w : World} {b lb mb c n : Nat} {L : List UInt8} {C : List Ent} {t : Nat} {f : Int} (h : DkAt w b lb mb c n L C t f true) (i : Nat) (s : ByteArray) (hs : s.size = 64) (hi : i < n) (hf : f ≠ 0) (ht : t < 1000000) :
    Calls Try.prog 12 #[.pointer (some ⟨b, 0, none⟩), .int .i64 i, .string s] w fun e w' => e = .returned (.int .i64 0) ∧ DkAt w' b lb mb c n L (putE C i s (t + 1)) (t + 1) (burnF f) true ∧ Touch (DkS b lb mb) w w' := by
  obtain ⟨c0, c1, c2, c3, c4⟩ := h.cells
  have f2 := h.box.free 2
  have f3 := h.box.free 3
  have b1 := h.f1
  have b2 := h.f2
  have H := Lib.hid h
  clear h
  have d1 : ((s.size : Int) != 64) = false := by rw [hs]; rfl
  have HS := Lib.hid hs
  have HFN := Lib.hid hf
  clear hs hf
  by_cases hp : 0 < f
  · have d2 : decide (0 < f) = true := decide_eq_true hp
    have HF : Hid (burnF f = f - 1) := Lib.hid (if_pos hp)
    go_enter Try.func12, Try.ntmps12
    go_upto_region 11 with (first
      | (go_at_call 24; refine (check_ok H.out _ hi).mono ?_; rintro e w' ⟨rfl, rfl⟩)
      | (go_at_call 21; refine (burns_no H.out HFN.out).mono ?_; rintro e w' ⟨rfl, rfl⟩))
    have hD1 : DkAt ((w.setCell ⟨b, 3, none⟩ (.int .i64 (f - 1))).setCell ⟨b, 2, none⟩ (.int .i64 ((t + 1 : Nat) : Int))) b lb mb c n L C (t + 1) (f - 1) true := (H.out.setF (f - 1) (by omega) (by omega)).setT (t + 1) (by omega) (by omega)
    have hM1 : MapAt ((w.setCell ⟨b, 3, none⟩ (.int .i64 (f - 1))).setCell ⟨b, 2, none⟩ (.int .i64 ((t + 1 : Nat) : Int))) mb t C := H.out.map.kept (S := fun k => k = b) ((((Touch.refl (fun k => k = b) w).setCell (p := ⟨b, 3, none⟩) (Or.inl rfl) _).setCell (p := ⟨b, 2, none⟩) (Or.inl rfl) _)) H.out.mne.1
    have hT1 : Touch (DkS b lb mb) w ((w.setCell ⟨b, 3, none⟩ (.int .i64 (f - 1))).setCell ⟨b, 2, none⟩ (.int .i64 ((t + 1 : Nat) : Int))) := (((Touch.refl _ w).setCell (p := ⟨b, 3, none⟩) (Or.inl (Or.inl rfl)) _).setCell (p := ⟨b, 2, none⟩) (Or.inl (Or.inl rfl)) _)
    rw [show (((t + 1 : Nat)) : Int) = (t : Int) + 1 by omega] at hD1 hM1 hT1
    clear c0 c1 c2 c3 c4 f2 f3 d1 d2
    generalize (w.setCell ⟨b, 3, none⟩ (.int .i64 (f - 1))).setCell ⟨b, 2, none⟩ (.int .i64 ((t : Int) + 1)) = w1 at hD1 hM1 hT1 ⊢
    have e1 := hD1.cells.2.1
    have e2 := hD1.cells.2.2.1
    rw [show (((t + 1 : Nat)) : Int) = (t : Int) + 1 by omega] at e2
    have HM : Hid (∀ w2, Touch (fun _ => False) w1.drew w2 → ∃ w3, (Instr.mapUpdate 54 (.map (some mb)) (.int .i64 i) (.agg #[.string s, .int .i64 ((t : Int) + 1)])).run Try.prog w2 = .ok () w3 ∧ MapAt w3 mb (t + 1) (putE C i s (t + 1)) ∧ w2.grownBy w3 (some mb)) := Lib.hid (fun w2 hT => by
      have hn2 := H.out.n2
      exact (hM1.kept ((Touch.refl (fun _ => False) w1).drew.trans hT) id).store (by unfold maxLen; omega) i (by omega) s (t + 1) (fun e he => by have := (H.out.ents e he).2.2; omega))
    have HD1 := Lib.hid hD1
    clear hD1 hM1
    have HE : Hid (w1.cell? ⟨b, 1, none⟩ = some (.map (some mb)) ∧ w1.cell? ⟨b, 2, none⟩ = some (.int .i64 ((t : Int) + 1))) := Lib.hid ⟨e1, e2⟩
    go_region_law (go_simp; go_at_call 25; refine (sclone_calls s _ HS.out).mono ?_; rintro e w2 ⟨rfl, hT2⟩; obtain ⟨w3, hrun3, hm3, hg3⟩ := HM.out w2 hT2; have g1 := hT2.cell (p := ⟨b, 1, none⟩) HE.out.1 id; have g2 := hT2.cell (p := ⟨b, 2, none⟩) HE.out.2 id)
    all_goals
      go_wp2
      go_ret
      have hTm : Touch (fun k => k = mb) w2 w3 := (Touch.of_grown hg3).mono fun k hk => by injection hk
      have hD3 := (HD1.out.still ((Touch.refl (fun _ => False) w1).drew.trans hT2)).setC hm3 (ents_put H.out.ents hi HS.out) hTm
      exact ⟨rfl, by rw [HF.out]; exact hD3, (hT1.trans ((Touch.refl (DkS b lb mb) w1).drew.trans (hT2.mono fun k hk => hk.elim))).trans (hTm.mono fun k hk => .inr (.inr hk))⟩
  · have d2 : decide (0 < f) = false := decide_eq_false hp
    have HF : Hid (burnF f = f) := Lib.hid (if_neg hp)
    go_enter Try.func12, Try.ntmps12
    go_upto_region 11 with (first
      | (go_at_call 24; refine (check_ok H.out _ hi).mono ?_; rintro e w' ⟨rfl, rfl⟩)
      | (go_at_call 21; refine (burns_no H.out HFN.out).mono ?_; rintro e w' ⟨rfl, rfl⟩))
    have hD1 : DkAt (w.setCell ⟨b, 2, none⟩ (.int .i64 ((t + 1 : Nat) : Int))) b lb mb c n L C (t + 1) (f) true := H.out.setT (t + 1) (by omega) (by omega)
    have hM1 : MapAt (w.setCell ⟨b, 2, none⟩ (.int .i64 ((t + 1 : Nat) : Int))) mb t C := H.out.map.kept (S := fun k => k = b) (((Touch.refl (fun k => k = b) w).setCell (p := ⟨b, 2, none⟩) (Or.inl rfl) _)) H.out.mne.1
    have hT1 : Touch (DkS b lb mb) w (w.setCell ⟨b, 2, none⟩ (.int .i64 ((t + 1 : Nat) : Int))) := ((Touch.refl _ w).setCell (p := ⟨b, 2, none⟩) (Or.inl (Or.inl rfl)) _)
    rw [show (((t + 1 : Nat)) : Int) = (t : Int) + 1 by omega] at hD1 hM1 hT1
    clear c0 c1 c2 c3 c4 f2 f3 d1 d2
    generalize w.setCell ⟨b, 2, none⟩ (.int .i64 ((t : Int) + 1)) = w1 at hD1 hM1 hT1 ⊢
    have e1 := hD1.cells.2.1
    have e2 := hD1.cells.2.2.1
    rw [show (((t + 1 : Nat)) : Int) = (t : Int) + 1 by omega] at e2
    have HM : Hid (∀ w2, Touch (fun _ => False) w1.drew w2 → ∃ w3, (Instr.mapUpdate 54 (.map (some mb)) (.int .i64 i) (.agg #[.string s, .int .i64 ((t : Int) + 1)])).run Try.prog w2 = .ok () w3 ∧ MapAt w3 mb (t + 1) (putE C i s (t + 1)) ∧ w2.grownBy w3 (some mb)) := Lib.hid (fun w2 hT => by
      have hn2 := H.out.n2
      exact (hM1.kept ((Touch.refl (fun _ => False) w1).drew.trans hT) id).store (by unfold maxLen; omega) i (by omega) s (t + 1) (fun e he => by have := (H.out.ents e he).2.2; omega))
    have HD1 := Lib.hid hD1
    clear hD1 hM1
    have HE : Hid (w1.cell? ⟨b, 1, none⟩ = some (.map (some mb)) ∧ w1.cell? ⟨b, 2, none⟩ = some (.int .i64 ((t : Int) + 1))) := Lib.hid ⟨e1, e2⟩
    go_region_law (go_simp; go_at_call 25; refine (sclone_calls s _ HS.out).mono ?_; rintro e w2 ⟨rfl, hT2⟩; obtain ⟨w3, hrun3, hm3, hg3⟩ := HM.out w2 hT2; have g1 := hT2.cell (p := ⟨b, 1, none⟩) HE.out.1 id; have g2 := hT2.cell (p := ⟨b, 2, none⟩) HE.out.2 id)
    all_goals
      go_wp2
      go_ret
      have hTm : Touch (fun k => k = mb) w2 w3 := (Touch.of_grown hg3).mono fun k hk => by injection hk
      have hD3 := (HD1.out.still ((Touch.refl (fun _ => False) w1).drew.trans hT2)).setC hm3 (ents_put H.out.ents hi HS.out) hTm
      exact ⟨rfl, by rw [HF.out]; exact hD3, (hT1.trans ((Touch.refl (DkS b lb mb) w1).drew.trans (hT2.mono fun k hk => hk.elim))).trans (hTm.mono fun k hk => .inr (.inr hk))⟩

end Go.Proofs.Ytjjpknmjkhaahaa
