/- The example of layer 4's statements. -/
import Derived.Test.YthobbdnmhldglaaMrgK
namespace Go.Proofs.Ythobbdnmhldglaa
open Go Go.RowKit Go.Shelf
set_option maxRecDepth 100000

theorem syms_ex : symsM [1, 1, 2, 4] = [1, 0, 2, 3] := by
  have h : comesL [1, 1, 2, 4] 4 = [0, 1, 2, 3] := by decide
  unfold symsM
  rw [show ([1, 1, 2, 4] : List Nat).length = 4 from rfl, h]
  simp [List.mergeSort, List.MergeSort.Internal.splitInTwo, rarer]
theorem lens_ex : lensM [1, 1, 2, 4] 3 = [3, 3, 2, 1] := by
  unfold lensM costsM
  rw [syms_ex]
  decide
theorem cost_ex : costN [1, 1, 2, 4] [3, 3, 2, 1] 4 = 14 := by decide
theorem row_four (w : World) : Row (w.alloc (.cells #[.int .i64 1, .int .i64 1, .int .i64 2, .int .i64 4] 3)) 3 (.slice (some ⟨w.heap.size, 0, none⟩) 4 4) (intVs [1, 1, 2, 4]) :=
  .inr ⟨w.heap.size, 0, 4, _, rfl, heap_alloc_new w _, by decide, by unfold maxLen; omega, by decide, rfl⟩

theorem mlen_ex (v : Value) (w : World) (hv : Reads w v (intVs [1, 1, 2, 4])) :
    Calls Try.prog 7 #[v, .int .i64 3] w fun e w' => ∃ g off cap, e = .returned (.tuple #[.slice (some ⟨g, off, none⟩) 4 cap, .int .i64 0]) ∧ Reads w' (.slice (some ⟨g, off, none⟩) 4 cap) (intVs [3, 3, 2, 1]) ∧ (w'.cell? ⟨g, off, none⟩ = some (.int .i64 3) ∧ w'.cell? ⟨g, off + 1, none⟩ = some (.int .i64 3) ∧ w'.cell? ⟨g, off + 2, none⟩ = some (.int .i64 2) ∧ w'.cell? ⟨g, off + 3, none⟩ = some (.int .i64 1)) ∧ Touch (fun _ => False) w w' := by
  refine (mlen_some [1, 1, 2, 4] 3 v w hv (by decide) (by decide) (by decide) (by decide) (by rw [syms_ex]; decide) (by rw [syms_ex]; decide)).mono ?_
  rintro e w' ⟨r, rfl, hr, _, ht⟩
  rw [lens_ex] at hr
  obtain ⟨g, off, cap, rfl, _, _, hc⟩ := hr.addr (by decide)
  exact ⟨g, off, cap, rfl, hr.reads, ⟨hc 0 _ rfl, hc 1 _ rfl, hc 2 _ rfl, hc 3 _ rfl⟩, ht⟩

set_option maxHeartbeats 1000000 in
theorem speaks4_calls (w : World) : Calls Try.prog 6 #[] w fun e w' => e = .returned (.bool true) ∧ Touch (fun _ => False) w w' := by
  have HCO := Lib.hid (fun (cv lv : Value) (W : World) (hc : Reads W cv (intVs [1, 1, 2, 4])) (hl : Reads W lv (intVs [3, 3, 2, 1])) => cost_calls [1, 1, 2, 4] [3, 3, 2, 1] cv lv W (by decide) rfl hc hl (fun k => by
    have h1 : ∀ k, costN [1, 1, 2, 4] [3, 3, 2, 1] (4 + k) = 14 := by
      intro k
      induction k with
      | zero => rfl
      | succ k ih => rw [← Nat.add_assoc, costN, ih]; simp [List.getD_eq_getElem?_getD]
    rcases Nat.lt_or_ge k 4 with h | h
    · have : ∀ k : Fin 4, costN [1, 1, 2, 4] [3, 3, 2, 1] k.val < 4611686018427387904 := by decide
      exact this ⟨k, h⟩
    · obtain ⟨q, rfl⟩ : ∃ q, k = 4 + q := ⟨k - 4, by omega⟩
      rw [h1]
      decide))
  rw [show ([1, 1, 2, 4] : List Nat).length = 4 from rfl, cost_ex] at HCO
  go_enter Try.func6, Try.ntmps6
  go_wp2_with (first
    | (go_at_call 7; refine (mlen_ex _ _ (row_four _).reads).mono ?_; rintro e w1 ⟨g, off, cap, rfl, hr, ⟨c0, c1, c2, c3⟩, ht1⟩; have HR := Lib.hid hr; clear hr)
    | (go_at_call 10; refine (HCO.out _ _ _ (row_four _).reads (HR.out.still ((Touch.refl _ _).alloc _))).mono ?_; rintro e w2 ⟨rfl, ht2⟩))
  go_ret
  exact ⟨rfl, (((Touch.refl _ _).alloc _).trans ht1).trans (((Touch.refl _ _).alloc _).trans ht2)⟩
end Go.Proofs.Ythobbdnmhldglaa
