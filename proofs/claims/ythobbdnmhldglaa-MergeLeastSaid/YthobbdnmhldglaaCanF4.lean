
/- Contract of package canon's New over the translated program: lengths that may not be. -/
import Derived.Test.YthobbdnmhldglaaCanF
namespace Go.Proofs.Ythobbdnmhldglaa
open Go Go.RowKit
set_option maxRecDepth 100000
set_option maxRecDepth 100000

theorem new_arg (xs : List Int) (loose : Bool) (v : Value) (w : World) (hv : Reads w v (intsV xs)) (hbad : xs.any badLen = true ∨ 288 < xs.length) :
    Calls Try.prog 9 #[v, .bool loose] w fun e w' => e = .returned (.tuple #[.pointer none, .int .i64 1]) ∧ Touch (fun _ => False) w w' := by
    have hcount := count_out xs v w hv hbad
    go_enter Try.func9, Try.ntmps9
    go_wp2_with (first
      | (go_at_call 17; refine hcount.mono ?_; rintro e w1 ⟨rfl, ht1⟩)
      | (refine wpList_store_row rfl 40 (.tmp 6) (.tmp 14) rfl _ _ rfl rfl _ _ (heap_alloc_new w1 _) Try.size65 rfl (tabV_one _ _) ?_))
    go_ret2
    exact ⟨rfl, (ht1.alloc _).setRow (.inr ht1.size) _⟩

set_option maxHeartbeats 400000 in
theorem new_over (ls : List Nat) (loose : Bool) (v : Value) (w : World) (hv : Reads w v (intVs ls)) (h15 : ∀ x ∈ ls, x ≤ 15) (hn : ls.length ≤ 288) (hk : 32768 < kraftN ls) :
    Calls Try.prog 9 #[v, .bool loose] w fun e w' => e = .returned (.tuple #[.pointer none, .int .i64 5]) ∧ Touch (fun _ => False) w w' := by
    have hcount := count_in ls v w hv h15 hn
    have hshare := share_calls ls h15 hn
    generalize kraftN ls = U at hk hshare
    go_enter Try.func9, Try.ntmps9
    go_wp2_with (first
      | (go_at_call 17; refine hcount.mono ?_; rintro e w1 ⟨rfl, ht1⟩)
      | (refine wpList_store_row rfl 40 (.tmp 6) (.tmp 14) rfl _ _ rfl rfl _ _ (heap_alloc_new w1 _) Try.size65 rfl (tabV_one _ _) ?_; have h6 := (Block.new w1 40 (tabV 16 fun _ => 0)).row (ys := tabV 16 (cntN ls)) rfl; have hT6 := ((Touch.refl (fun _ => False) w).trans ht1).alloc (.cells (tabV 16 fun _ => 0).toArray 40) |>.setRow (g := w1.heap.size) (.inr (by have := ht1.size; omega)) (tabV 16 (cntN ls)).toArray; rw [← zero16] at h6 hT6; generalize (World.setRow _ _ _) = w2 at h6 hT6 ⊢; have g1 := (h6.cell 1).trans (tabV_get 16 _ 1 (by omega)); have h6c := h6.cells)
      | (refine wpList_load_cells rfl 40 (.tmp 6) rfl _ 0 rfl _ _ h6c Try.underlying40 rfl Try.size65 ?_)
      | (go_at_call 18; refine (hshare _).mono ?_; rintro e w3 ⟨rfl, ht3⟩; have h6' := h6.kept ht3 id; have g1' := (h6'.cell 1).trans (tabV_get 16 _ 1 (by omega)); have hT7 := hT6.trans ht3))
    go_ret2
    exact ⟨rfl, hT7⟩

set_option maxHeartbeats 800000 in
theorem new_few (ls : List Nat) (loose : Bool) (v : Value) (w : World) (hv : Reads w v (intVs ls)) (h15 : ∀ x ∈ ls, x ≤ 15) (hn : ls.length ≤ 288) (hk : kraftN ls < 32768) (hl : loose = true → kraftN ls ≠ 0 ∧ ¬ (kraftN ls = 16384 ∧ cntN ls 1 = 1)) :
    Calls Try.prog 9 #[v, .bool loose] w fun e w' => e = .returned (.tuple #[.pointer none, .int .i64 4]) ∧ Touch (fun _ => False) w w' := by
    have hcount := count_in ls v w hv h15 hn
    have hshare := share_calls ls h15 hn
    generalize kraftN ls = U at hk hshare hl
    by_cases h0 : U = 0
    · have hf : loose = false := by cases loose with | false => rfl | true => exact absurd h0 (hl rfl).1
      subst hf
      subst h0
      clear hl hk
      go_enter Try.func9, Try.ntmps9
      go_wp2_with (first
        | (go_at_call 17; refine hcount.mono ?_; rintro e w1 ⟨rfl, ht1⟩)
        | (refine wpList_store_row rfl 40 (.tmp 6) (.tmp 14) rfl _ _ rfl rfl _ _ (heap_alloc_new w1 _) Try.size65 rfl (tabV_one _ _) ?_; have h6 := (Block.new w1 40 (tabV 16 fun _ => 0)).row (ys := tabV 16 (cntN ls)) rfl; have hT6 := ((Touch.refl (fun _ => False) w).trans ht1).alloc (.cells (tabV 16 fun _ => 0).toArray 40) |>.setRow (g := w1.heap.size) (.inr (by have := ht1.size; omega)) (tabV 16 (cntN ls)).toArray; rw [← zero16] at h6 hT6; generalize (World.setRow _ _ _) = w2 at h6 hT6 ⊢; have g1 := (h6.cell 1).trans (tabV_get 16 _ 1 (by omega)); have h6c := h6.cells)
        | (refine wpList_load_cells rfl 40 (.tmp 6) rfl _ 0 rfl _ _ h6c Try.underlying40 rfl Try.size65 ?_)
        | (go_at_call 18; refine (hshare _).mono ?_; rintro e w3 ⟨rfl, ht3⟩; have h6' := h6.kept ht3 id; have g1' := (h6'.cell 1).trans (tabV_get 16 _ 1 (by omega)); have hT7 := hT6.trans ht3))
      go_ret2
      exact ⟨rfl, hT7⟩
    · by_cases hh : U = 16384
      · subst hh
        by_cases h1 : cntN ls 1 = 1
        · have hf : loose = false := by cases loose with | false => rfl | true => exact absurd ⟨rfl, h1⟩ (hl rfl).2
          subst hf
          have H1 := Lib.hid h1
          clear hl hk h1 h0
          go_enter Try.func9, Try.ntmps9
          go_wp2_with (first
            | (go_at_call 17; refine hcount.mono ?_; rintro e w1 ⟨rfl, ht1⟩)
            | (refine wpList_store_row rfl 40 (.tmp 6) (.tmp 14) rfl _ _ rfl rfl _ _ (heap_alloc_new w1 _) Try.size65 rfl (tabV_one _ _) ?_; have h6 := (Block.new w1 40 (tabV 16 fun _ => 0)).row (ys := tabV 16 (cntN ls)) rfl; have hT6 := ((Touch.refl (fun _ => False) w).trans ht1).alloc (.cells (tabV 16 fun _ => 0).toArray 40) |>.setRow (g := w1.heap.size) (.inr (by have := ht1.size; omega)) (tabV 16 (cntN ls)).toArray; rw [← zero16] at h6 hT6; generalize (World.setRow _ _ _) = w2 at h6 hT6 ⊢; have g1 := True.intro; have h6c := h6.cells)
            | (refine wpList_load_cells rfl 40 (.tmp 6) rfl _ 0 rfl _ _ h6c Try.underlying40 rfl Try.size65 ?_)
            | (go_at_call 18; refine (hshare _).mono ?_; rintro e w3 ⟨rfl, ht3⟩; have h6' := h6.kept ht3 id; have g1' := (h6'.cell 1).trans (tabV_get 16 _ 1 (by omega)); rw [H1.out] at g1'; have hT7 := hT6.trans ht3))
          go_ret2
          exact ⟨rfl, hT7⟩
        · have hcb : cntN ls 1 ≤ 288 := by unfold cntN; split; · omega
                                           · exact Nat.le_trans List.count_le_length hn
          clear hl hk h0
          generalize hc1 : cntN ls 1 = c1 at h1 hcb
          have H1 := Lib.hid hc1
          have h1i : ((c1 : Int) == 1) = false := by simp; omega
          clear hc1 h1 hcb
          cases loose
          all_goals
            go_enter Try.func9, Try.ntmps9
            go_wp2_with (first
              | (go_at_call 17; refine hcount.mono ?_; rintro e w1 ⟨rfl, ht1⟩)
              | (refine wpList_store_row rfl 40 (.tmp 6) (.tmp 14) rfl _ _ rfl rfl _ _ (heap_alloc_new w1 _) Try.size65 rfl (tabV_one _ _) ?_; have h6 := (Block.new w1 40 (tabV 16 fun _ => 0)).row (ys := tabV 16 (cntN ls)) rfl; have hT6 := ((Touch.refl (fun _ => False) w).trans ht1).alloc (.cells (tabV 16 fun _ => 0).toArray 40) |>.setRow (g := w1.heap.size) (.inr (by have := ht1.size; omega)) (tabV 16 (cntN ls)).toArray; rw [← zero16] at h6 hT6; generalize (World.setRow _ _ _) = w2 at h6 hT6 ⊢; have g1 := True.intro; have h6c := h6.cells)
              | (refine wpList_load_cells rfl 40 (.tmp 6) rfl _ 0 rfl _ _ h6c Try.underlying40 rfl Try.size65 ?_)
              | (go_at_call 18; refine (hshare _).mono ?_; rintro e w3 ⟨rfl, ht3⟩; have h6' := h6.kept ht3 id; have g1' := (h6'.cell 1).trans (tabV_get 16 _ 1 (by omega)); rw [H1.out] at g1'; have hT7 := hT6.trans ht3))
            go_ret2
            exact ⟨rfl, hT7⟩
      · obtain ⟨Z, hZ⟩ : ∃ Z : Int, Z = (U : Int) := ⟨_, rfl⟩
        rw [← hZ] at hshare
        have h0i : (Z == 0) = false := by simp; omega
        have hhi : (Z == 16384) = false := by simp; omega
        have hki : decide (Z < 32768) = true := by simp; omega
        have hkj : decide (32768 < Z) = false := by simp; omega
        clear hl h0 hh hk hZ
        cases loose
        all_goals
          go_enter Try.func9, Try.ntmps9
          go_wp2_with (first
            | (go_at_call 17; refine hcount.mono ?_; rintro e w1 ⟨rfl, ht1⟩)
            | (refine wpList_store_row rfl 40 (.tmp 6) (.tmp 14) rfl _ _ rfl rfl _ _ (heap_alloc_new w1 _) Try.size65 rfl (tabV_one _ _) ?_; have h6 := (Block.new w1 40 (tabV 16 fun _ => 0)).row (ys := tabV 16 (cntN ls)) rfl; have hT6 := ((Touch.refl (fun _ => False) w).trans ht1).alloc (.cells (tabV 16 fun _ => 0).toArray 40) |>.setRow (g := w1.heap.size) (.inr (by have := ht1.size; omega)) (tabV 16 (cntN ls)).toArray; rw [← zero16] at h6 hT6; generalize (World.setRow _ _ _) = w2 at h6 hT6 ⊢; have g1 := (h6.cell 1).trans (tabV_get 16 _ 1 (by omega)); have h6c := h6.cells)
            | (refine wpList_load_cells rfl 40 (.tmp 6) rfl _ 0 rfl _ _ h6c Try.underlying40 rfl Try.size65 ?_)
            | (go_at_call 18; refine (hshare _).mono ?_; rintro e w3 ⟨rfl, ht3⟩; have h6' := h6.kept ht3 id; have g1' := (h6'.cell 1).trans (tabV_get 16 _ 1 (by omega)); have hT7 := hT6.trans ht3))
          go_ret2
          exact ⟨rfl, hT7⟩

end Go.Proofs.Ythobbdnmhldglaa
