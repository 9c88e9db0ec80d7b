
/- Contracts of package dos: which times may be. -/
import Derived.Test.YtdohhmaggeocjaaDoorDosA
import Derived.Test.YtdohhmaggeocjaaDoorDosQ
import Derived.Test.YtdohhmaggeocjaaDoorDosM
namespace Go.Proofs.YtdohhmaggeocjaaDoor
open Go Go.RowKit
set_option maxRecDepth 100000
set_option maxRecDepth 100000

def Tim.v (t : Tim) : Value := .agg #[.int .i64 t.y, .int .i64 t.mo, .int .i64 t.d, .int .i64 t.h, .int .i64 t.mi, .int .i64 t.s]

theorem within_b (b : Bool) (n x y : Int) (w : World) (h : inB x y n = b) : Calls Tryd.prog 86 #[.int .i64 n, .int .i64 x, .int .i64 y] w fun e w' => e = .returned (.bool b) ∧ w = w' := by
  subst h
  exact within_calls _ _ _ _

theorem chain7 (a1 a2 a3 a4 a5 a6 a7 : Bool) : (a1 = false) ∨ (a1 = true ∧ a2 = false) ∨ (a1 = true ∧ a2 = true ∧ a3 = false) ∨ (a1 = true ∧ a2 = true ∧ a3 = true ∧ a4 = false) ∨ (a1 = true ∧ a2 = true ∧ a3 = true ∧ a4 = true ∧ a5 = false) ∨ (a1 = true ∧ a2 = true ∧ a3 = true ∧ a4 = true ∧ a5 = true ∧ a6 = false) ∨ (a1 = true ∧ a2 = true ∧ a3 = true ∧ a4 = true ∧ a5 = true ∧ a6 = true ∧ a7 = false) ∨ (a1 = true ∧ a2 = true ∧ a3 = true ∧ a4 = true ∧ a5 = true ∧ a6 = true ∧ a7 = true) := by
  cases a1 <;> cases a2 <;> cases a3 <;> cases a4 <;> cases a5 <;> cases a6 <;> cases a7 <;> simp

set_option maxHeartbeats 2000000 in
theorem good_calls (t : Tim) (w : World) : Calls Tryd.prog 65 #[t.v] w fun e w' => e = .returned (.bool (goodB t)) ∧ Touch (fun _ => False) w w' := by
  obtain ⟨y, mo, d, h, mi, s⟩ := t
  unfold Tim.v
  go_enter Tryd.func65, Tryd.ntmps65
  go_wp2
  refine wp_region_quiet_lit (by kernel_rfl) (by kernel_rfl) ?_
  rcases chain7 (inB 1980 2107 y) (inB 1 12 mo) (inB 1 (dimI y mo) d) (inB 0 23 h) (inB 0 59 mi) (inB 0 58 s) (s.tmod 2 == 0) with h1 | ⟨h1, h2⟩ | ⟨h1, h2, h3⟩ | ⟨h1, h2, h3, h4⟩ | ⟨h1, h2, h3, h4, h5⟩ | ⟨h1, h2, h3, h4, h5, h6⟩ | ⟨h1, h2, h3, h4, h5, h6, h7⟩ | ⟨h1, h2, h3, h4, h5, h6, h7⟩
  all_goals
    repeat (go_big_quiet_step (first
      | (go_at_call 86; first | exact quiet_same (within_b true _ _ _ _ (by assumption)) | exact quiet_same (within_b false _ _ _ _ (by assumption)))
      | (go_at_call 79; exact quiet_same (days_calls _ _ _))))
    refine wpQuiet_nil ?_
    intro _ hw1
    obtain ⟨nq, hw2⟩ := hw1
    subst hw2
    go_wp2
    go_ret
    refine ⟨ret_bool ?_, ((Touch.refl _ _).alloc _).drewN _⟩
    unfold goodB
    simp_all

theorem yearDays_calls (y : Int) (w : World) : Calls Tryd.prog 78 #[.int .i64 y] w fun e w' => e = .returned (.int .i64 (ydI y)) ∧ w = w' := by
  go_enter Tryd.func78, Tryd.ntmps78
  go_wp2_with (go_at_call 105; refine (leap_calls y _).mono ?_; rintro e w' ⟨rfl, rfl⟩)
  all_goals
    go_ret
    refine ⟨ret_int ?_, rfl⟩
    unfold ydI
    simp_all

theorem good_b (b : Bool) (t : Tim) (w : World) (h : goodB t = b) : Calls Tryd.prog 65 #[t.v] w fun e w' => e = .returned (.bool b) ∧ Touch (fun _ => False) w w' := by
  subst h
  exact good_calls t w
end Go.Proofs.YtdohhmaggeocjaaDoor
