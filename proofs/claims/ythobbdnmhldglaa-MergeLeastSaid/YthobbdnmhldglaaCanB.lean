
/- Contracts of package canon's counts and shares over the translated program. -/
import Derived.Test.YthobbdnmhldglaaCanA
namespace Go.Proofs.Ythobbdnmhldglaa
open Go Go.RowKit
set_option maxRecDepth 100000
set_option maxRecDepth 100000

/-- Sixteen numbers by their places. -/
def tabV (n : Nat) (f : Nat → Nat) : List Value := (List.range n).map fun k => Value.int .i64 (f k : Nat)
theorem tabV_length (n : Nat) (f : Nat → Nat) : (tabV n f).length = n := by simp [tabV]
theorem tabV_get (n : Nat) (f : Nat → Nat) (k : Nat) (hk : k < n) : (tabV n f)[k]? = some (.int .i64 (f k : Nat)) := by simp [tabV, hk]
theorem tabV_set (n : Nat) (f : Nat → Nat) (k x : Nat) : (tabV n f).set k (.int .i64 (x : Nat)) = tabV n (fun j => if j = k then x else f j) := by
  apply List.ext_getElem?
  intro j
  rw [List.getElem?_set]
  by_cases h : k = j
  · subst h
    by_cases hk : k < n
    · simp [tabV, hk]
    · simp [tabV, hk]
  · rw [if_neg h]
    by_cases hj : j < n
    · simp [tabV, hj, show ¬ j = k from fun e => h e.symm]
    · simp [tabV, hj]
theorem tabV_congr (n : Nat) (f g : Nat → Nat) (h : ∀ k, k < n → f k = g k) : tabV n f = tabV n g := by
  unfold tabV
  apply List.map_congr_left
  intro k hk
  rw [h k (List.mem_range.1 hk)]
theorem tabV_one (n : Nat) (f : Nat → Nat) : (tabV n f).toArray.all (·.oneCell') = true := by
  rw [Array.all_eq_true_iff_forall_mem]
  intro u hu
  obtain ⟨k, _, rfl⟩ := List.mem_map.1 (List.mem_toArray.1 hu)
  rfl

theorem Try.size65 : (Try.prog.info? 40).map (·.size) = some 16 := by kernel_rfl
theorem zero16 : (#[Value.int .i64 0, .int .i64 0, .int .i64 0, .int .i64 0, .int .i64 0, .int .i64 0, .int .i64 0, .int .i64 0, .int .i64 0, .int .i64 0, .int .i64 0, .int .i64 0, .int .i64 0, .int .i64 0, .int .i64 0, .int .i64 0] : Array Value) = (tabV 16 fun _ => 0).toArray := rfl

theorem count_out (xs : List Int) (v : Value) (w : World) (hv : Reads w v (intsV xs)) (hbad : xs.any badLen = true ∨ 288 < xs.length) :
    Calls Try.prog 17 #[v] w fun e w' => e = .returned (.tuple #[.agg (tabV 16 fun _ => 0).toArray, .bool false]) ∧ Touch (fun _ => False) w w' := by
  obtain ⟨a, cap, hv', hc1, hc2⟩ := hv.form
  rw [intsV_length] at hv'
  subst hv'
  unfold maxLen at hc2
  rw [intsV_length] at hc1
  have hA := fun (W : World) (h : Touch (fun _ => False) w W) => any_calls 30 badLen enters_bad asks_bad xs _ W (hv.still h)
  clear hv
  generalize xs.any badLen = bad at hA hbad
  have fin : ∀ (b2 b4 : Nat) (W : World), b2 ≠ b4 → w.heap.size ≤ b2 → Block W b2 40 (tabV 16 fun _ => 0) → Touch (fun _ => False) w W → Block (W.setRow b2 (tabV 16 fun _ => 0).toArray) b2 40 (tabV 16 fun _ => 0) ∧ Touch (fun _ => False) w (W.setRow b2 (tabV 16 fun _ => 0).toArray) := fun b2 b4 W _ h1 h2 h3 =>
    ⟨h2.row rfl, h3.setRow (.inr h1) _⟩
  by_cases hb : bad = true
  · subst hb
    clear hbad
    go_enter Try.func17, Try.ntmps17
    go_wp2_with (first
      | (go_at_call 12; refine (hA _ (((Touch.refl _ _).alloc _).alloc _)).mono ?_; rintro e w' ⟨rfl, ht⟩; rw [zero16] at ht; have h2 := ((Block.new w 40 (tabV 16 fun _ => 0)).kept (((Touch.refl (fun _ => False) _).alloc _).trans ht) id); have h4 := (Block.new (w.alloc (.cells (tabV 16 fun _ => 0).toArray 40)) 40 (tabV 16 fun _ => 0)).kept ht id; rw [World.size_alloc] at h4; have hT := (((Touch.refl (fun _ => False) w).alloc _).alloc _).trans ht; clear ht)
      | (refine wpList_load_row rfl 40 (.tmp 4) rfl _ rfl _ _ _ _ h4 Try.underlying40 rfl Try.size65 ?_)
      | (refine wpList_store_row rfl 40 (.tmp 2) (.tmp 16) rfl _ _ rfl rfl _ _ h2 Try.size65 rfl (tabV_one _ _) ?_))
    obtain ⟨k1, k2⟩ := fin _ (w.heap.size + 1) _ (by omega) (Nat.le_refl _) h2 hT
    refine bodyPost_ret (v := .tuple #[.agg (tabV 16 fun _ => 0).toArray, .bool false]) ?_ rfl ⟨rfl, k2⟩
    rw [results_cell_tmp rfl]
    have hld := run_loadVar_row (P := Try.prog) _ _ _ 40 _ _ _ k1 Try.underlying40 rfl Try.size65
    simp [asAddr, Result.andThen, hld]
  · have hn : 288 < xs.length := hbad.resolve_left hb
    have hb' : bad = false := by simpa using hb
    subst hb'
    clear hbad hb
    go_enter Try.func17, Try.ntmps17
    go_wp2_with (first
      | (go_at_call 12; refine (hA _ (((Touch.refl _ _).alloc _).alloc _)).mono ?_; rintro e w' ⟨rfl, ht⟩; rw [zero16] at ht; have h2 := ((Block.new w 40 (tabV 16 fun _ => 0)).kept (((Touch.refl (fun _ => False) _).alloc _).trans ht) id); have h4 := (Block.new (w.alloc (.cells (tabV 16 fun _ => 0).toArray 40)) 40 (tabV 16 fun _ => 0)).kept ht id; rw [World.size_alloc] at h4; have hT := (((Touch.refl (fun _ => False) w).alloc _).alloc _).trans ht; clear ht)
      | (refine wpList_load_row rfl 40 (.tmp 4) rfl _ rfl _ _ _ _ h4 Try.underlying40 rfl Try.size65 ?_)
      | (refine wpList_store_row rfl 40 (.tmp 2) (.tmp 16) rfl _ _ rfl rfl _ _ h2 Try.size65 rfl (tabV_one _ _) ?_))
    obtain ⟨k1, k2⟩ := fin _ (w.heap.size + 1) _ (by omega) (Nat.le_refl _) h2 hT
    refine bodyPost_ret (v := .tuple #[.agg (tabV 16 fun _ => 0).toArray, .bool false]) ?_ rfl ⟨rfl, k2⟩
    rw [results_cell_tmp rfl]
    have hld := run_loadVar_row (P := Try.prog) _ _ _ 40 _ _ _ k1 Try.underlying40 rfl Try.size65
    simp [asAddr, Result.andThen, hld]

theorem good_any (ls : List Nat) (h : ∀ x ∈ ls, x ≤ 15) : (ls.map Int.ofNat).any badLen = false := by
  rw [List.any_eq_false]
  intro x hx
  obtain ⟨n, hn, rfl⟩ := List.mem_map.1 hx
  have := h n hn
  unfold badLen
  simp
  omega

theorem count_step (ls : List Nat) (i : Nat) (hi : i < ls.length) (k : Nat) : (if k = ls[i] then (ls.take i).count ls[i] + 1 else (ls.take i).count k) = (ls.take (i + 1)).count k := by
  rw [List.take_succ_eq_append_getElem hi, List.count_append, List.count_singleton]
  by_cases h : k = ls[i]
  · subst h; simp
  · simp [h, show ¬ ls[i] = k from fun e => h e.symm]

set_option maxHeartbeats 400000 in
theorem count_in (ls : List Nat) (v : Value) (w : World) (hv : Reads w v (intVs ls)) (h15 : ∀ x ∈ ls, x ≤ 15) (hn : ls.length ≤ 288) :
    Calls Try.prog 17 #[v] w fun e w' => e = .returned (.tuple #[.agg (tabV 16 (cntN ls)).toArray, .bool true]) ∧ Touch (fun _ => False) w w' := by
  obtain ⟨a, cap, hv', hc1, hc2⟩ := hv.form
  rw [intVs_length] at hv'
  subst hv'
  unfold maxLen at hc2
  rw [intVs_length] at hc1
  have hv0 : Reads w (.slice a ls.length cap) (intsV (ls.map Int.ofNat)) := by rw [intsV_nat]; exact hv
  have hA := fun (W : World) (h : Touch (fun _ => False) w W) => any_calls 30 badLen enters_bad asks_bad (ls.map Int.ofNat) _ W (hv0.still h)
  rw [good_any ls h15] at hA
  have hcell : ∀ j, (hj : j < ls.length) → ∃ g off, a = some ⟨g, off, none⟩ ∧ ∀ W, Touch (fun _ => False) w W → W.cell? ⟨g, off + j, none⟩ = some (.int .i64 (ls[j] : Nat)) := fun j hj => by
    obtain ⟨g, off, cap', he, _, _, _, hc⟩ := hv.addr (by rw [intVs_length]; omega)
    injection he with he1 _ _
    subst he1
    exact ⟨g, off, rfl, fun W hW => hW.cell (hc j _ (by simp [intVs, hj])) id⟩
  clear hv hv0
  have H15 := Lib.hid h15
  clear h15
  go_enter Try.func17, Try.ntmps17
  go_wp2_with (go_at_call 12; refine (hA _ (((Touch.refl _ _).alloc _).alloc _)).mono ?_; rintro e w' ⟨rfl, ht⟩; rw [zero16] at ht; have h2 := ((Block.new w 40 (tabV 16 fun _ => 0)).kept (((Touch.refl (fun _ => False) _).alloc _).trans ht) id); have h4 := (Block.new (w.alloc (.cells (tabV 16 fun _ => 0).toArray 40)) 40 (tabV 16 fun _ => 0)).kept ht id; rw [World.size_alloc] at h4; have hT := (((Touch.refl (fun _ => False) w).alloc _).alloc _).trans ht; clear ht)
  clear hA
  go_loopw [7, 19] (fun _ i wr => ∃ k : Nat, k ≤ ls.length ∧ i = .int .i64 k ∧ Block wr w.heap.size 40 (tabV 16 fun _ => 0) ∧ Block wr (w.heap.size + 1) 40 (tabV 16 fun n => (ls.take k).count n) ∧ Touch (fun _ => False) w wr) (fun _ i _ => ls.length - (intOf i).toNat)
  case atStart => exact ⟨0, Nat.zero_le _, rfl, h2, by simpa using h4, hT⟩
  case round =>
    clear h2 h4 hT
    obtain ⟨k, hk, rfl, h2, h4, hT⟩ := hrel
    by_cases hlt : k < ls.length
    · obtain ⟨g, off, rfl, hc⟩ := hcell k hlt
      have hc' := hc wr hT
      have hm := H15.out _ (List.getElem_mem hlt)
      generalize hx : ls[k] = x at hc' hm
      have HX := Lib.hid hx
      have H2 := Lib.hid h2
      have H4 := Lib.hid h4
      have g4 := (h4.cell x).trans (tabV_get 16 _ x (by omega))
      have f4 := h4.free x
      clear hcell hc hx h2 h4
      have hcnt : (ls.take k).count x ≤ ls.length := Nat.le_trans (List.count_le_length) (by rw [List.length_take]; omega)
      go_wp2
      go_roundw
      case rel =>
        refine ⟨k + 1, by omega, by go_num, H2.out.kept ((Touch.refl (fun j => j = w.heap.size + 1) _).setCell (Or.inl rfl) _) (by omega), ?_, hT.setCell (.inr (by simp)) _⟩
        have := H4.out.set x (.int .i64 (((ls.take k).count x + 1 : Nat) : Int))
        rw [tabV_set, tabV_congr 16 (fun j => if j = x then (ls.take k).count x + 1 else (ls.take k).count j) (fun n => (ls.take (k + 1)).count n) (fun j _ => by rw [← HX.out]; exact count_step ls k hlt j)] at this
        simpa using this
      case measure => simp [intOf]; omega
    · obtain rfl : k = ls.length := by omega
      clear hcell
      rw [List.take_length] at h4
      have f4 := h4.free 0
      have H4 := Lib.hid (show Block (wr.setCell ⟨w.heap.size + 1, 0, none⟩ (.int .i64 0)) (w.heap.size + 1) 40 (tabV 16 (cntN ls)) by
        have := h4.set 0 (.int .i64 ((0 : Nat) : Int))
        rw [tabV_set, tabV_congr 16 _ (cntN ls) (fun j _ => by unfold cntN; rfl)] at this
        exact this)
      have H2 := Lib.hid (show Block (wr.setCell ⟨w.heap.size + 1, 0, none⟩ (.int .i64 0)) w.heap.size 40 (tabV 16 fun _ => 0) from h2.kept ((Touch.refl (fun j => j = w.heap.size + 1) _).setCell (Or.inl rfl) _) (by omega))
      have hT2 := Lib.hid (hT.setCell (p := ⟨w.heap.size + 1, 0, none⟩) (.inr (by simp)) (.int .i64 0))
      have g4 := (h4.cell 0).trans (tabV_get 16 _ 0 (by omega))
      clear h2 h4 hT
      go_wp2_with (first
        | (refine wpList_load_row rfl 40 (.tmp 4) rfl _ rfl _ _ _ _ H4.out Try.underlying40 rfl Try.size65 ?_)
        | (refine wpList_store_row rfl 40 (.tmp 2) (.tmp 30) rfl _ _ rfl rfl _ _ H2.out Try.size65 rfl (tabV_one _ _) ?_))
      refine bodyPost_ret (v := .tuple #[.agg (tabV 16 (cntN ls)).toArray, .bool true]) ?_ rfl ⟨rfl, hT2.out.setRow (.inr (Nat.le_refl _)) _⟩
      rw [results_cell_tmp rfl]
      have hld := run_loadVar_row (P := Try.prog) _ _ _ 40 _ _ _ (H2.out.row (ys := tabV 16 (cntN ls)) rfl) Try.underlying40 rfl Try.size65
      simp [asAddr, Result.andThen, hld]

end Go.Proofs.Ythobbdnmhldglaa
