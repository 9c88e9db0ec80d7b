/- The statement RecvRefuses, and the beginning of all of layer 25's. -/
import Derived.Test.YtimiiahhedpfaaaRvB
import Derived.Test.YtimiiahhedpfaaaBase
import Derived.Carry
namespace Go.Proofs.Ytimiiahhedpfaaa
open Go Go.RowKit Go.Maps Go.MapKept Go.ChangeMaps
set_option maxRecDepth 100000

set_option maxHeartbeats 2000000 in
theorem speaks25_calls (w : World) : Calls Try.prog 11 #[] w fun e w' => e = .returned (.bool true) ∧ Touch (fun _ => False) w w' := by
  go_enter Try.func11, Try.ntmps11
  go_wp2_with fail
  refine (rnew_calls 5 4 (by omega) (by omega) (by omega) w).mono ?_
  rintro e w1 ⟨p, mb, rfl, h1, hpm, ht1⟩
  have HT1 := Lib.hid ht1
  have HP := Lib.hid hpm
  have H1 := Lib.hid h1
  clear ht1 hpm h1
  go_wp2_with fail
  have h6 := rtake_new H1.out 1 (by omega) ⟨#[98]⟩ (by decide) rfl (by omega)
  rw [show numU 5 (0 + 1) = 6 by decide] at h6
  refine h6.mono ?_
  rintro e w2 ⟨rfl, h2, ht2⟩
  have H2 := Lib.hid h2
  have HT2 := Lib.hid ht2
  clear h6 h2 ht2
  go_wp2_with fail
  have ha := rack_calls H2.out
  rw [show numU 5 0 = 5 by decide, show ackM (setT (fun _ => none) (0 + 1) ⟨#[98]⟩) 0 = 1 by decide] at ha
  refine ha.mono ?_
  rintro e w3 ⟨rfl, ht3⟩
  have H3 := Lib.hid (H2.out.still ht3)
  have HT3 := Lib.hid (HT2.out.trans (ht3.mono (fun _ e => e.elim)))
  clear ha ht3
  go_wp2_with fail
  have h5 := rtake_new H3.out 0 (by omega) ⟨#[97]⟩ (by decide) rfl (by omega)
  rw [show numU 5 (0 + 0) = 5 by decide] at h5
  refine h5.mono ?_
  rintro e w4 ⟨rfl, h4, ht4⟩
  have H4 := Lib.hid h4
  have HT4 := Lib.hid (HT3.out.trans ht4)
  clear h5 h4 ht4
  go_wp2_with fail
  refine (rnext_some H4.out (t := ⟨#[97]⟩) rfl (by omega)).mono ?_
  rintro e w5 ⟨rfl, h5, ht5⟩
  have H5 := Lib.hid h5
  have HT5 := Lib.hid ((HT4.out.mono (S' := fun k => k = p ∨ k = mb) (fun _ e => Or.inr e)).trans ht5)
  clear h5 ht5
  go_wp2_with fail
  refine (rnext_some H5.out (t := ⟨#[98]⟩) rfl (by omega)).mono ?_
  rintro e w6 ⟨rfl, h6, ht6⟩
  have H6 := Lib.hid h6
  have HT6 := Lib.hid (HT5.out.trans ht6)
  clear h6 ht6
  go_wp2_with fail
  have hh := rheld_calls H6.out
  rw [show heldM (offT (offT (setT (setT (fun _ => none) (0 + 1) ⟨#[98]⟩) (0 + 0) ⟨#[97]⟩) 0) (0 + 1)) (0 + 1 + 1) 4 = 0 by decide] at hh
  refine hh.mono ?_
  rintro e w7 ⟨rfl, ht7⟩
  have HT7 := Lib.hid (HT6.out.trans (ht7.mono (fun _ e => e.elim)))
  clear hh ht7
  go_wp2_with fail
  go_ret
  exact ⟨rfl, HT1.out.trans' HT7.out (fun i e => Or.inr (by have := HP.out; omega))⟩

set_option maxHeartbeats 2000000 in
theorem rref_good (f sz : Nat) (hf : f < 4294967296) (hz1 : 1 ≤ sz) (hz2 : sz ≤ 32) (w : World) : Calls Try.prog 5 #[.int .u32 (f : Nat), .int .i64 (sz : Nat)] w fun e w' => e = .returned (.bool true) ∧ Touch (fun _ => False) w w' := by
  have d3 : decide ((1 : Int) ≤ (sz : Int)) = true := decide_eq_true (by omega)
  have d4 : decide ((sz : Int) ≤ 32) = true := decide_eq_true (by omega)
  have d3' : decide (1 ≤ sz) = true := decide_eq_true (by omega)
  have d4' : decide (sz ≤ 32) = true := decide_eq_true (by omega)
  go_enter Try.func5, Try.ntmps5
  go_wp2_with fail
  refine (speaks25_calls w).mono ?_
  rintro e w0 ⟨rfl, ht0⟩
  have HT0 := Lib.hid ht0
  clear ht0
  go_wp2_with fail
  refine (rnew_calls f sz hf hz1 hz2 w0).mono ?_
  rintro e w1 ⟨p, mb, rfl, h1, hpm, ht1⟩
  have HT1 := Lib.hid (HT0.out.trans ht1)
  clear ht1 hpm h1
  go_wp2_with fail
  refine (rnext_nil _).mono ?_
  rintro e w' ⟨rfl, rfl⟩
  go_wp2_with fail
  refine (rack_nil _).mono ?_
  rintro e w' ⟨rfl, rfl⟩
  go_wp2_with fail
  refine (rheld_nil _).mono ?_
  rintro e w' ⟨rfl, rfl⟩
  go_wp2_with fail
  refine (rtake_nil _ _ _).mono ?_
  rintro e w2 ⟨rfl, ht2⟩
  have HT2 := Lib.hid (HT1.out.trans ht2)
  clear ht2
  go_wp2_with fail
  go_ret
  exact ⟨rfl, HT2.out⟩
set_option maxHeartbeats 2000000 in
theorem rref_bad (f : Nat) (sz : Int) (h : sz < 1 ∨ 32 < sz) (w : World) : Calls Try.prog 5 #[.int .u32 (f : Nat), .int .i64 sz] w fun e w' => e = .returned (.bool true) ∧ Touch (fun _ => False) w w' := by
  have hb := Lib.hid (fun W => rnew_bad f sz h W)
  have dd : decide (1 ≤ sz) = false ∨ (decide (1 ≤ sz) = true ∧ decide (sz ≤ 32) = false) := by
    simp only [decide_eq_true_iff, decide_eq_false_iff_not]
    omega
  clear h
  rcases dd with d1 | ⟨d1, d2⟩
  all_goals
    go_enter Try.func5, Try.ntmps5
    go_wp2_with fail
    refine (speaks25_calls w).mono ?_
    rintro e w0 ⟨rfl, ht0⟩
    have HT0 := Lib.hid ht0
    clear ht0
    go_wp2_with fail
    refine (hb.out w0).mono ?_
    rintro e w' ⟨rfl, rfl⟩
    go_wp2_with fail
    refine (rnext_nil _).mono ?_
    rintro e w' ⟨rfl, rfl⟩
    go_wp2_with fail
    refine (rack_nil _).mono ?_
    rintro e w' ⟨rfl, rfl⟩
    go_wp2_with fail
    refine (rheld_nil _).mono ?_
    rintro e w' ⟨rfl, rfl⟩
    go_wp2_with fail
    refine (rtake_nil _ _ _).mono ?_
    rintro e w2 ⟨rfl, ht2⟩
    have HT2 := Lib.hid (HT0.out.trans ht2)
    clear ht2
    go_wp2_with fail
    go_ret
    exact ⟨rfl, HT2.out⟩
theorem rrefuses_calls (f : Nat) (sz : Int) (hf : f < 4294967296) (w : World) : Calls Try.prog 5 #[.int .u32 (f : Nat), .int .i64 sz] w fun e w' => e = .returned (.bool true) ∧ Touch (fun _ => False) w w' := by
  by_cases h : sz < 1 ∨ 32 < sz
  · exact rref_bad f sz h w
  · obtain ⟨s, rfl⟩ : ∃ s : Nat, sz = s := ⟨sz.toNat, by omega⟩
    exact rref_good f s hf (by omega) (by omega) w
end Go.Proofs.Ytimiiahhedpfaaa
