
/- The contract of layer 11's reference: which times may be. -/
import Derived.Test.YtdohhmaggeocjaaDoorDosC
namespace Go.Proofs.YtdohhmaggeocjaaDoor
open Go Go.RowKit
set_option maxRecDepth 100000
set_option maxRecDepth 100000

theorem chain13 (a1 a2 a3 a4 a5 a6 a7 a8 a9 a10 a11 a12 a13 : Bool) : (a1 = false) ∨ (a1 = true ∧ a2 = false) ∨ (a1 = true ∧ a2 = true ∧ a3 = false) ∨ (a1 = true ∧ a2 = true ∧ a3 = true ∧ a4 = false) ∨ (a1 = true ∧ a2 = true ∧ a3 = true ∧ a4 = true ∧ a5 = false) ∨ (a1 = true ∧ a2 = true ∧ a3 = true ∧ a4 = true ∧ a5 = true ∧ a6 = false) ∨ (a1 = true ∧ a2 = true ∧ a3 = true ∧ a4 = true ∧ a5 = true ∧ a6 = true ∧ a7 = false) ∨ (a1 = true ∧ a2 = true ∧ a3 = true ∧ a4 = true ∧ a5 = true ∧ a6 = true ∧ a7 = true ∧ a8 = false) ∨ (a1 = true ∧ a2 = true ∧ a3 = true ∧ a4 = true ∧ a5 = true ∧ a6 = true ∧ a7 = true ∧ a8 = true ∧ a9 = false) ∨ (a1 = true ∧ a2 = true ∧ a3 = true ∧ a4 = true ∧ a5 = true ∧ a6 = true ∧ a7 = true ∧ a8 = true ∧ a9 = true ∧ a10 = false) ∨ (a1 = true ∧ a2 = true ∧ a3 = true ∧ a4 = true ∧ a5 = true ∧ a6 = true ∧ a7 = true ∧ a8 = true ∧ a9 = true ∧ a10 = true ∧ a11 = false) ∨ (a1 = true ∧ a2 = true ∧ a3 = true ∧ a4 = true ∧ a5 = true ∧ a6 = true ∧ a7 = true ∧ a8 = true ∧ a9 = true ∧ a10 = true ∧ a11 = true ∧ a12 = false) ∨ (a1 = true ∧ a2 = true ∧ a3 = true ∧ a4 = true ∧ a5 = true ∧ a6 = true ∧ a7 = true ∧ a8 = true ∧ a9 = true ∧ a10 = true ∧ a11 = true ∧ a12 = true ∧ a13 = false) ∨ (a1 = true ∧ a2 = true ∧ a3 = true ∧ a4 = true ∧ a5 = true ∧ a6 = true ∧ a7 = true ∧ a8 = true ∧ a9 = true ∧ a10 = true ∧ a11 = true ∧ a12 = true ∧ a13 = true) := by
  cases a1
  · simp
  cases a2
  · simp
  cases a3
  · simp
  cases a4
  · simp
  cases a5
  · simp
  cases a6
  · simp
  cases a7
  · simp
  cases a8
  · simp
  cases a9
  · simp
  cases a10
  · simp
  cases a11
  · simp
  cases a12
  · simp
  cases a13
  · simp
  simp

set_option maxHeartbeats 4000000 in
theorem refgood_calls (t : Tim) (w : World) : Calls Tryd.prog 56 #[t.v] w fun e w' => e = .returned (.bool (goodB t)) ∧ Touch (fun _ => False) w w' := by
  obtain ⟨y, mo, d, h, mi, s⟩ := t
  unfold Tim.v
  go_enter Tryd.func56, Tryd.ntmps56
  go_wp2
  simp only [List.append]
  have hW := heap_alloc_new w (.cells #[.int .i64 y, .int .i64 mo, .int .i64 d, .int .i64 h, .int .i64 mi, .int .i64 s] 49)
  have hA := (Touch.refl (fun _ => False) w).alloc (.cells #[.int .i64 y, .int .i64 mo, .int .i64 d, .int .i64 h, .int .i64 mi, .int .i64 s] 49)
  have hc : ∀ (j : Nat) (v : Value), (#[Value.int .i64 y, .int .i64 mo, .int .i64 d, .int .i64 h, .int .i64 mi, .int .i64 s] : Array Value)[j]? = some v → (w.alloc (.cells #[.int .i64 y, .int .i64 mo, .int .i64 d, .int .i64 h, .int .i64 mi, .int .i64 s] 49)).cell? ⟨w.heap.size, j, none⟩ = some v := fun j v hv => by
    rw [cell_of_row _ _ _ _ _ _ hW]; exact hv
  refine wp_region_quiet_touch (fun _ => False) (by kernel_rfl) (by kernel_rfl) ?_
  generalize w.alloc (.cells #[.int .i64 y, .int .i64 mo, .int .i64 d, .int .i64 h, .int .i64 mi, .int .i64 s] 49) = w0 at hA hc ⊢
  clear hW
  generalize w.heap.size = B at hc ⊢
  have c0 : ∀ T : Wd (fun _ => False) w0, T.V.cell? ⟨B, 0, none⟩ = some (.int .i64 y) := fun T => T.ok.cell (p := ⟨B, 0, none⟩) (hc 0 _ rfl) id
  have c1 : ∀ T : Wd (fun _ => False) w0, T.V.cell? ⟨B, 1, none⟩ = some (.int .i64 mo) := fun T => T.ok.cell (p := ⟨B, 1, none⟩) (hc 1 _ rfl) id
  have c2 : ∀ T : Wd (fun _ => False) w0, T.V.cell? ⟨B, 2, none⟩ = some (.int .i64 d) := fun T => T.ok.cell (p := ⟨B, 2, none⟩) (hc 2 _ rfl) id
  have c3 : ∀ T : Wd (fun _ => False) w0, T.V.cell? ⟨B, 3, none⟩ = some (.int .i64 h) := fun T => T.ok.cell (p := ⟨B, 3, none⟩) (hc 3 _ rfl) id
  have c4 : ∀ T : Wd (fun _ => False) w0, T.V.cell? ⟨B, 4, none⟩ = some (.int .i64 mi) := fun T => T.ok.cell (p := ⟨B, 4, none⟩) (hc 4 _ rfl) id
  have c5 : ∀ T : Wd (fun _ => False) w0, T.V.cell? ⟨B, 5, none⟩ = some (.int .i64 s) := fun T => T.ok.cell (p := ⟨B, 5, none⟩) (hc 5 _ rfl) id
  clear hc
  have hA' := Lib.hid hA
  clear hA
  rcases chain13 (decide (1980 ≤ y)) (decide (y ≤ 2107)) (decide (1 ≤ mo)) (decide (mo ≤ 12)) (decide (1 ≤ d)) (decide (d ≤ dimI y mo)) (decide (0 ≤ h)) (decide (h ≤ 23)) (decide (0 ≤ mi)) (decide (mi ≤ 59)) (decide (0 ≤ s)) (decide (s ≤ 58)) (s.tmod 2 == 0) with h1 | ⟨h1, h2⟩ | ⟨h1, h2, h3⟩ | ⟨h1, h2, h3, h4⟩ | ⟨h1, h2, h3, h4, h5⟩ | ⟨h1, h2, h3, h4, h5, h6⟩ | ⟨h1, h2, h3, h4, h5, h6, h7⟩ | ⟨h1, h2, h3, h4, h5, h6, h7, h8⟩ | ⟨h1, h2, h3, h4, h5, h6, h7, h8, h9⟩ | ⟨h1, h2, h3, h4, h5, h6, h7, h8, h9, h10⟩ | ⟨h1, h2, h3, h4, h5, h6, h7, h8, h9, h10, h11⟩ | ⟨h1, h2, h3, h4, h5, h6, h7, h8, h9, h10, h11, h12⟩ | ⟨h1, h2, h3, h4, h5, h6, h7, h8, h9, h10, h11, h12, h13⟩ | ⟨h1, h2, h3, h4, h5, h6, h7, h8, h9, h10, h11, h12, h13⟩
  all_goals
    repeat (go_big_quiet_step (first
      | (go_at_call 80; exact quiet_touch (refdays_calls _ _ _))))
    refine wpQuiet_nil ?_
    intro _ hw1
    obtain ⟨T, hw2⟩ := hw1
    subst hw2
    clear c0 c1 c2 c3 c4 c5
    go_wp2
    go_ret
    refine ⟨ret_bool ?_, hA'.out.trans T.ok⟩
    unfold goodB inB
    simp_all
    all_goals (intros; omega)
end Go.Proofs.YtdohhmaggeocjaaDoor
