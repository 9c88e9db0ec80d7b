
/- Contracts of layer 11's reference: days, which times may be, the next day. -/
import Derived.Test.YtdohhmaggeocjaaDoorDosB
namespace Go.Proofs.YtdohhmaggeocjaaDoor
open Go Go.RowKit
set_option maxRecDepth 100000
set_option maxRecDepth 100000

theorem chain5 (a1 a2 a3 a4 a5 : Bool) : (a1 = false) ∨ (a1 = true ∧ a2 = false) ∨ (a1 = true ∧ a2 = true ∧ a3 = false) ∨ (a1 = true ∧ a2 = true ∧ a3 = true ∧ a4 = false) ∨ (a1 = true ∧ a2 = true ∧ a3 = true ∧ a4 = true ∧ a5 = false) ∨ (a1 = true ∧ a2 = true ∧ a3 = true ∧ a4 = true ∧ a5 = true) := by
  cases a1
  · simp
  cases a2
  · simp
  cases a3
  · simp
  cases a4
  · simp
  cases a5
  · simp
  simp

theorem leap_alt (y : Int) : leapB y = (y.tmod 4 == 0 && (!(y.tmod 100 == 0) || y.tmod 400 == 0)) := by
  have h : y.tmod 400 = 0 → y.tmod 4 = 0 := fun h => by
    have h1 := Int.dvd_of_tmod_eq_zero h
    exact Int.tmod_eq_zero_of_dvd (Int.dvd_trans (by decide) h1)
  unfold leapB
  cases e : (y.tmod 400 == 0) with
  | false => rw [Bool.or_false, Bool.or_false]
  | true => rw [Bool.or_true, Bool.or_true, Bool.and_true, beq_iff_eq.2 (h (beq_iff_eq.1 e))]

set_option maxHeartbeats 2000000 in
theorem refdays_calls (y m : Int) (w : World) : Calls Tryd.prog 80 #[.int .i64 y, .int .i64 m] w fun e w' => e = .returned (.int .i64 (dimI y m)) ∧ Touch (fun _ => False) w w' := by
  have h12 : m < 1 ∨ 12 < m ∨ m = 1 ∨ m = 2 ∨ m = 3 ∨ m = 4 ∨ m = 5 ∨ m = 6 ∨ m = 7 ∨ m = 8 ∨ m = 9 ∨ m = 10 ∨ m = 11 ∨ m = 12 := by omega
  rcases h12 with h | h | rfl | rfl | rfl | rfl | rfl | rfl | rfl | rfl | rfl | rfl | rfl | rfl
  · go_enter Tryd.func80, Tryd.ntmps80
    go_wp2
    go_ret
    refine ⟨ret_int ?_, (Touch.refl _ _).alloc _⟩
    unfold dimI
    rw [if_neg (by omega), if_neg (by omega), if_neg (by omega)]
  · have h' : ¬ m < 1 := by omega
    go_enter Tryd.func80, Tryd.ntmps80
    go_wp2
    go_ret
    refine ⟨ret_int ?_, (Touch.refl _ _).alloc _⟩
    unfold dimI
    rw [if_neg (by omega), if_neg (by omega), if_neg (by omega)]
  all_goals
    go_enter Tryd.func80, Tryd.ntmps80
    go_wp2
    all_goals
      go_ret
      refine ⟨ret_int ?_, (Touch.refl _ _).alloc _⟩
      unfold dimI
      rw [leap_alt]
      simp_all

end Go.Proofs.YtdohhmaggeocjaaDoor
