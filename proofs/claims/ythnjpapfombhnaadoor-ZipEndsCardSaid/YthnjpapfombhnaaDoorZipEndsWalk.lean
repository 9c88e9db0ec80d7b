/- The walk of layer 13's statement that an archive's end is the document's. -/
import Derived.Test.YthnjpapfombhnaaDoorZipR
namespace Go.Proofs.YthnjpapfombhnaaDoor
open Go Go.RowKit
set_option maxRecDepth 100000

set_option maxHeartbeats 4000000 in
theorem refend_big (c z a : Nat) (w : World) (h : ¬ max (max c z) a < 4611686018427387904) : Calls Tryd.prog 26 #[.int .u64 c, .int .u64 z, .int .u64 a] w fun e w' => e = .returned (.string ByteArray.empty) ∧ Touch (fun _ => False) w w' := by
  by_cases h1 : 4611686018427387904 ≤ c
  · have d1 : decide ((4611686018427387904 : Int) ≤ (c : Int)) = true := by apply decide_eq_true; omega
    clear h h1
    generalize (c : Int) = cI at *
    generalize (z : Int) = zI at *
    generalize (a : Int) = aI at *
    go_enter Tryd.func26, Tryd.ntmps26
    go_wp2
    go_ret
    exact ⟨rfl, Touch.refl _ _⟩
  · have d1 : decide ((4611686018427387904 : Int) ≤ (c : Int)) = false := by apply decide_eq_false; omega
    by_cases h2 : 4611686018427387904 ≤ z
    · have d2 : decide ((4611686018427387904 : Int) ≤ (z : Int)) = true := by apply decide_eq_true; omega
      clear h h1 h2
      generalize (c : Int) = cI at *
      generalize (z : Int) = zI at *
      generalize (a : Int) = aI at *
      go_enter Tryd.func26, Tryd.ntmps26
      go_wp2
      go_ret
      exact ⟨rfl, Touch.refl _ _⟩
    · have d2 : decide ((4611686018427387904 : Int) ≤ (z : Int)) = false := by apply decide_eq_false; omega
      have d3 : decide ((4611686018427387904 : Int) ≤ (a : Int)) = true := by apply decide_eq_true; omega
      clear h h1 h2
      generalize (c : Int) = cI at *
      generalize (z : Int) = zI at *
      generalize (a : Int) = aI at *
      go_enter Tryd.func26, Tryd.ntmps26
      go_wp2
      go_ret
      exact ⟨rfl, Touch.refl _ _⟩

theorem refend_calls (c z a : Nat) (w : World) : Calls Tryd.prog 26 #[.int .u64 c, .int .u64 z, .int .u64 a] w fun e w' => e = .returned (.string (endB c z a)) ∧ Touch (fun _ => False) w w' := by
  unfold endB
  by_cases h : max (max c z) a < 4611686018427387904
  · rw [if_pos h]; exact refend_small c z a w h
  · rw [if_neg h]; exact refend_big c z a w h

set_option maxHeartbeats 1000000 in
theorem zends_calls (c z a : Nat) (w : World) (hT : Tabs w) :
    Calls Tryd.prog 8 #[.int .u64 c, .int .u64 z, .int .u64 a] w fun e w' => e = .returned (.bool true) ∧ Touch (fun _ => False) w w' := by
  have HSP := Lib.hid (fun W (hT : Tabs W) => speaks13_calls W hT)
  have HE := Lib.hid (fun W => end_calls c z a W)
  have HR := Lib.hid (fun W => refend_calls c z a W)
  generalize endB c z a = EB at *
  generalize (c : Int) = cI at *
  generalize (z : Int) = zI at *
  generalize (a : Int) = aI at *
  go_enter Tryd.func8, Tryd.ntmps8
  go_wp2_with (first
    | (go_at_call 24; refine (HSP.out _ hT).mono ?_; rintro e w1 ⟨rfl, ht1⟩; have HT1 := Lib.hid ht1; clear ht1)
    | (go_at_call 25; refine (HE.out _).mono ?_; rintro e w2 ⟨rfl, ht2⟩; have HT2 := Lib.hid (HT1.out.trans ht2); clear ht2)
    | (go_at_call 26; refine (HR.out _).mono ?_; rintro e w3 ⟨rfl, ht3⟩; have HT3 := Lib.hid (HT2.out.trans ht3); clear ht3))
  go_ret
  exact ⟨rfl, HT3.out⟩
end Go.Proofs.YthnjpapfombhnaaDoor
