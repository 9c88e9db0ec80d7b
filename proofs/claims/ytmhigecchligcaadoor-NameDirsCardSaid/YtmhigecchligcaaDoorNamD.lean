
/- The contract of package name's check, for any text. -/
import Derived.Test.YtmhigecchligcaaDoorNamC
namespace Go.Proofs.YtmhigecchligcaaDoor
open Go Go.RowKit Go.Shelf
set_option maxRecDepth 100000
attribute [local go_sem] Oper.semAt_some

set_option maxHeartbeats 1000000 in
theorem check_bad (S : ByteArray) (w : World) (hs0 : S.size ≤ 1000000) (hT : Tabs w) (h : 65535 < S.size ∨ (S.size ≤ 65535 ∧ (Lib.validD S.data.toList = false ∨ (Lib.validD S.data.toList = true ∧ barB S = true)))) : Calls Tryd.prog 9 #[.string S] w fun e w' => e = .returned (.int .i64 9) ∧ Touch (fun _ => False) w w' := by
  have HV := Lib.hid (fun b (h2 : Lib.validD S.data.toList = b) W (h : Tabs W) => (by have := valid_calls S W (by omega) h; rwa [h2] at this : Calls Tryd.prog 20 #[.string S] W fun e w' => e = .returned (.bool b) ∧ Touch (fun _ => False) W w'))
  have HC := Lib.hid (fun b (h3 : barB S = b) W => (by have := contains_calls S W; rwa [h3] at this : Calls Tryd.prog 21 #[.string S, .func (.func 22) #[] #[]] W fun e w' => e = .returned (.bool b) ∧ Touch (fun _ => False) W w'))
  refine (callsIn_wide (n := 3)).1 ?_
  refine callsIn_of_wp_marks Tryd.func9 rfl trivial ?_ rfl
  simp only [Tryd.ntmps9, List.size_toArray, List.length_cons, List.length_nil, Nat.reduceAdd, Nat.reduceSub, Array.replicate_succ, Array.replicate_zero, List.push_toArray, List.append_toArray, List.nil_append, List.cons_append]
  rcases h with h | ⟨h, h2 | ⟨h2, h3⟩⟩
  · have hd : decide ((65535 : Int) < (S.size : Int)) = true := by simp; omega
    gi_wp2
    refine ⟨trivial, ?_⟩
    gi_wp2
    refine ⟨trivial, ?_⟩
    gi_wp2
    refine ⟨_, results_cell1 rfl _ _ ⟨w.heap.size, 0, none⟩ (.int .i64 9) rfl ?_ Tryd.underlying23, rfl, ?_⟩
    · rw [cell_of_row _ _ _ _ _ _ (heap_alloc_new w _)]; rfl
    · exact (Touch.refl _ _).alloc _
  · have hd : decide ((65535 : Int) < (S.size : Int)) = false := by simp; omega
    have HV' := Lib.hid (HV.out _ h2)
    clear h2
    gi_wp2_with (first
      | (refine ⟨trivial, ?_⟩; gi_at_call 20; refine (callsIn_wide.2 (HV'.out _ (hT.kept ((Touch.refl _ _).alloc _)))).mono ?_; rintro e w1 ⟨rfl, ht1⟩; have hr1 := ht1.held (heap_alloc_new w _) id; have hc1 : w1.cell? ⟨w.heap.size, 0, none⟩ = some (.int .i64 0) := (by rw [cell_of_row _ _ _ _ _ _ hr1]; rfl); have hf1 := box_free hr1; clear hr1))
    refine ⟨trivial, ?_⟩
    gi_wp2
    refine ⟨_, results_cell1 rfl _ _ ⟨w.heap.size, 0, none⟩ (.int .i64 9) rfl (World.cell?_setCell_same _ _ _ hc1) Tryd.underlying23, rfl, ?_⟩
    exact (((Touch.refl _ _).alloc _).trans ht1).setCell (.inr (Nat.le_refl _)) _
  · have hd : decide ((65535 : Int) < (S.size : Int)) = false := by simp; omega
    have HV' := Lib.hid (HV.out _ h2)
    have HC' := Lib.hid (HC.out _ h3)
    clear h2 h3
    gi_wp2_with (first
      | (refine ⟨trivial, ?_⟩; gi_at_call 20; refine (callsIn_wide.2 (HV'.out _ (hT.kept ((Touch.refl _ _).alloc _)))).mono ?_; rintro e w1 ⟨rfl, ht1⟩)
      | (refine ⟨trivial, ?_⟩; gi_at_call 21; refine (callsIn_wide.2 (HC'.out _)).mono ?_; rintro e w2 ⟨rfl, ht2⟩; have hr1 := (ht1.trans ht2).held (heap_alloc_new w _) id; have hc1 : w2.cell? ⟨w.heap.size, 0, none⟩ = some (.int .i64 0) := (by rw [cell_of_row _ _ _ _ _ _ hr1]; rfl); have hf1 := box_free hr1; clear hr1))
    refine ⟨_, results_cell1 rfl _ _ ⟨w.heap.size, 0, none⟩ (.int .i64 9) rfl (World.cell?_setCell_same _ _ _ hc1) Tryd.underlying23, rfl, ?_⟩
    exact (((Touch.refl _ _).alloc _).trans (ht1.trans ht2)).setCell (.inr (Nat.le_refl _)) _

theorem check_calls (S : ByteArray) (w : World) (hs : S.size ≤ 1000000) (hT : Tabs w) : Calls Tryd.prog 9 #[.string S] w fun e w' => e = .returned (.int .i64 (if checkB S then 0 else 9)) ∧ Touch (fun _ => False) w w' := by
  by_cases h1 : S.size ≤ 65535
  · cases h2 : Lib.validD S.data.toList
    · have : checkB S = false := by unfold checkB; simp [h2]
      rw [this]
      exact check_bad S w hs hT (.inr ⟨h1, .inl h2⟩)
    · cases h3 : barB S
      · have : checkB S = (ptsA S 0).all fun x => goodPart x.t := by unfold checkB; simp [h1, h2, h3]
        rw [this]
        exact check_parts S w h1 h2 h3 hT
      · have : checkB S = false := by unfold checkB; simp [h3]
        rw [this]
        exact check_bad S w hs hT (.inr ⟨h1, .inr ⟨h2, h3⟩⟩)
  · have : checkB S = false := by unfold checkB; simp [h1]
    rw [this]
    exact check_bad S w hs hT (.inl (by omega))
end Go.Proofs.YtmhigecchligcaaDoor
