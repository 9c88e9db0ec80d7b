/- Contracts of the library's search by a function value, and of package canon's counts and shares, over the translated program. -/
import Derived.Test.YtoaeffinjpkahaaDoorBitsN
import Derived.Test.YtoaeffinjpkahaaDoorArr
import Derived.Test.YtoaeffinjpkahaaDoorCanNum
import Derived.Lib.Hide
import Derived.Shelf.Abstract
import Derived.LoopTactic
import Derived.Deep.LoopGhost
import Derived.Deep.Draws
import Derived.Test.YtoaeffinjpkahaaDoorNum
import Derived.Laws.OwnMore
namespace Go.Proofs.YtoaeffinjpkahaaDoor
set_option linter.unusedSimpArgs false
set_option linter.unusedVariables false
open Go Go.RowKit
set_option maxRecDepth 100000
theorem fresh_step1 {w a c : World} {k0 : Nat} (ht : Touch (fun _ => False) w a) (h0 : w.heap.size ≤ k0) (h : Touch (fun k => k = k0) a c) : Touch (fun _ => False) w c :=
  ht.trans' h (fun i hi => by subst hi; exact .inr h0)

theorem Tryd.info3 : (Tryd.prog.info? 3).map (fun i => (i.zero, i.size, i.bytes)) = some (some (.int .i64 0), 1, 8) := by kernel_rfl
def intsV (l : List Int) : List Value := l.map fun x => Value.int .i64 x
theorem intsV_length (l : List Int) : (intsV l).length = l.length := by simp [intsV]
theorem intsV_nat (l : List Nat) : intsV (l.map Int.ofNat) = intVs l := by simp [intsV, intVs]

/-- A function that tells of each number whether it is so, and does nothing else. -/
def Asks (g : Nat) (p : Int → Bool) : Prop := ∀ (x : Int) (w : World), Calls Tryd.prog g #[.int .i64 x] w fun e w' => e = .returned (.bool (p x)) ∧ w' = w

set_option maxHeartbeats 400000 in
theorem index_calls (g : Nat) (p : Int → Bool) (eg : ∀ args w, (callFunc g args).run Tryd.prog w = .ok (.enter g args) w) (hp : Asks g p) (xs : List Int) (v : Value) (w : World) (hv : Reads w v (intsV xs)) :
    Calls Tryd.prog 75 #[v, .func (.func g) #[] #[]] w fun e w' => (∃ i : Int, e = .returned (.int .i64 i) ∧ (decide (0 ≤ i) = xs.any p)) ∧ ∃ q, w' = w.drewN q := by
  by_cases h0 : 0 < xs.length
  · obtain ⟨b, off, cap, hv', hcap, hcm, hg, hcells⟩ := hv.addr (by rw [intsV_length]; exact h0)
    rw [intsV_length] at hv' hcap
    subst hv'
    unfold maxLen at hcm
    go_enter Tryd.func75, Tryd.ntmps75
    go_wp2
    go_loopw [5, 8] (fun _ i wr => ∃ k q : Nat, k ≤ xs.length ∧ i = .int .i64 k ∧ wr = w.drewN q ∧ RowKit.Hid (∀ j, (hj : j < xs.length) → j < k → p xs[j] = false)) (fun _ i _ => xs.length - (intOf i).toNat)
    case atStart => exact ⟨0, 0, Nat.zero_le _, rfl, rfl, Lib.hid (fun j _ hj => absurd hj (Nat.not_lt_zero _))⟩
    case round =>
      obtain ⟨k, q, hk, rfl, rfl, H⟩ := hrel
      by_cases hlt : k < xs.length
      · have hcell := hcells k (.int .i64 xs[k]) (by simp [intsV, hlt])
        clear hcells
        generalize hy : xs[k] = y at hcell
        have B := Lib.hid hy
        clear hy
        have hcall := hp y (w.drewN q)
        cases hq : p y with
        | true =>
          rw [hq] at hcall
          have HQ := Lib.hid hq
          clear hq
          go_wp2_with (go_at_fn g; refine hcall.mono ?_; rintro e w' ⟨rfl, rfl⟩)
          go_ret
          refine ⟨⟨_, rfl, ?_⟩, q, rfl⟩
          have : xs.any p = true := List.any_eq_true.2 ⟨xs[k], List.getElem_mem hlt, by rw [B.out]; exact HQ.out⟩
          rw [this]
          exact decide_eq_true (by omega)
        | false =>
          rw [hq] at hcall
          have HQ := Lib.hid hq
          clear hq
          go_wp2_with (go_at_fn g; refine hcall.mono ?_; rintro e w' ⟨rfl, rfl⟩)
          go_roundw
          case rel =>
            refine ⟨k + 1, _, by omega, by go_num, rfl, Lib.hid fun j hj hjk => ?_⟩
            by_cases e : j = k
            · subst e; rw [B.out]; exact HQ.out
            · exact H.out j hj (by omega)
          case measure => simp [intOf]; omega
      · obtain rfl : k = xs.length := by omega
        clear hcells
        go_wp2
        go_ret
        refine ⟨⟨_, rfl, ?_⟩, q, rfl⟩
        have : xs.any p = false := by
          rw [List.any_eq_false]
          intro x hx
          obtain ⟨j, hj, rfl⟩ := List.getElem_of_mem hx
          rw [H.out j hj hj]; simp
        rw [this]
        exact decide_eq_false (by omega)
  · obtain rfl : xs = [] := List.eq_nil_of_length_eq_zero (by omega)
    obtain ⟨a, cap, hv', _⟩ := hv.form
    subst hv'
    go_enter Tryd.func75, Tryd.ntmps75
    go_wp2
    go_loopw [5, 8] (fun _ i wr => i = .int .i64 0 ∧ wr = w) (fun _ _ _ => 0)
    case atStart => exact ⟨rfl, rfl⟩
    case round =>
      obtain ⟨rfl, rfl⟩ := hrel
      go_wp2
      go_ret
      exact ⟨⟨_, rfl, rfl⟩, 0, rfl⟩

theorem any_calls (g : Nat) (p : Int → Bool) (eg : ∀ args w, (callFunc g args).run Tryd.prog w = .ok (.enter g args) w) (hp : Asks g p) (xs : List Int) (v : Value) (w : World) (hv : Reads w v (intsV xs)) :
    Calls Tryd.prog 49 #[v, .func (.func g) #[] #[]] w fun e w' => e = .returned (.bool (xs.any p)) ∧ Touch (fun _ => False) w w' := by
  have hi := index_calls g p eg hp xs v w hv
  clear hp hv
  go_enter Tryd.func49, Tryd.ntmps49
  go_wp2_with (go_at_call 75; refine hi.mono ?_; rintro e w' ⟨⟨i, rfl, hd⟩, q, rfl⟩)
  go_ret
  refine ⟨?_, (Touch.refl _ _).drewN q⟩
  rw [← hd]
  rfl

/-- A length that may not be. -/
def badLen (x : Int) : Bool := decide (x < 0) || decide (15 < x)

theorem asks_bad : Asks 140 badLen := fun x w => by
  unfold badLen
  by_cases h1 : x < 0
  · go_enter Tryd.func140, Tryd.ntmps140
    go_wp2
    go_ret
    exact ⟨ret1 (by simp [h1]), rfl⟩
  · by_cases h2 : 15 < x
    · go_enter Tryd.func140, Tryd.ntmps140
      go_wp2
      go_ret
      exact ⟨ret1 (by simp [h2]), rfl⟩
    · go_enter Tryd.func140, Tryd.ntmps140
      go_wp2
      go_ret
      exact ⟨ret1 (by simp [h1, h2]), rfl⟩

theorem enters_bad : ∀ args w, (callFunc 140 args).run Tryd.prog w = .ok (.enter 140 args) w := enters_of Tryd.func140 (by kernel_rfl) rfl

end Go.Proofs.YtoaeffinjpkahaaDoor
/- Contracts of package canon's counts and shares over the translated program. -/
namespace Go.Proofs.YtoaeffinjpkahaaDoor
set_option linter.unusedSimpArgs false
set_option linter.unusedVariables false
open Go Go.RowKit
set_option maxRecDepth 100000

/-- Sixteen numbers by their places. -/
def tabV (n : Nat) (f : Nat → Nat) : List Value := (List.range n).map fun k => Value.int .i64 (f k : Nat)
theorem tabV_length (n : Nat) (f : Nat → Nat) : (tabV n f).length = n := by simp [tabV]
theorem tabV_get (n : Nat) (f : Nat → Nat) (k : Nat) (hk : k < n) : (tabV n f)[k]? = some (.int .i64 (f k : Nat)) := by simp [tabV, hk]
theorem tabV_set (n : Nat) (f : Nat → Nat) (k x : Nat) : (tabV n f).set k (.int .i64 (x : Nat)) = tabV n (fun j => if j = k then x else f j) := by
  apply List.ext_getElem?
  intro j
  rw [List.getElem?_set]
  by_cases h : k = j
  · subst h
    by_cases hk : k < n
    · simp [tabV, hk]
    · simp [tabV, hk]
  · rw [if_neg h]
    by_cases hj : j < n
    · simp [tabV, hj, show ¬ j = k from fun e => h e.symm]
    · simp [tabV, hj]
theorem tabV_congr (n : Nat) (f g : Nat → Nat) (h : ∀ k, k < n → f k = g k) : tabV n f = tabV n g := by
  unfold tabV
  apply List.map_congr_left
  intro k hk
  rw [h k (List.mem_range.1 hk)]
theorem tabV_one (n : Nat) (f : Nat → Nat) : (tabV n f).toArray.all (·.oneCell') = true := by
  rw [Array.all_eq_true_iff_forall_mem]
  intro u hu
  obtain ⟨k, _, rfl⟩ := List.mem_map.1 (List.mem_toArray.1 hu)
  rfl

theorem Tryd.size65 : (Tryd.prog.info? 156).map (·.size) = some 16 := by kernel_rfl
theorem zero16 : (#[Value.int .i64 0, .int .i64 0, .int .i64 0, .int .i64 0, .int .i64 0, .int .i64 0, .int .i64 0, .int .i64 0, .int .i64 0, .int .i64 0, .int .i64 0, .int .i64 0, .int .i64 0, .int .i64 0, .int .i64 0, .int .i64 0] : Array Value) = (tabV 16 fun _ => 0).toArray := rfl

theorem count_out (xs : List Int) (v : Value) (w : World) (hv : Reads w v (intsV xs)) (hbad : xs.any badLen = true ∨ 288 < xs.length) :
    Calls Tryd.prog 112 #[v] w fun e w' => e = .returned (.tuple #[.agg (tabV 16 fun _ => 0).toArray, .bool false]) ∧ Touch (fun _ => False) w w' := by
  obtain ⟨a, cap, hv', hc1, hc2⟩ := hv.form
  rw [intsV_length] at hv'
  subst hv'
  unfold maxLen at hc2
  rw [intsV_length] at hc1
  have hA := fun (W : World) (h : Touch (fun _ => False) w W) => any_calls 140 badLen enters_bad asks_bad xs _ W (hv.still h)
  clear hv
  generalize xs.any badLen = bad at hA hbad
  have fin : ∀ (b2 b4 : Nat) (W : World), b2 ≠ b4 → w.heap.size ≤ b2 → Block W b2 156 (tabV 16 fun _ => 0) → Touch (fun _ => False) w W → Block (W.setRow b2 (tabV 16 fun _ => 0).toArray) b2 156 (tabV 16 fun _ => 0) ∧ Touch (fun _ => False) w (W.setRow b2 (tabV 16 fun _ => 0).toArray) := fun b2 b4 W _ h1 h2 h3 =>
    ⟨h2.row rfl, h3.setRow (.inr h1) _⟩
  by_cases hb : bad = true
  · subst hb
    clear hbad
    go_enter Tryd.func112, Tryd.ntmps112
    go_wp2_with (first
      | (go_at_call 49; refine (hA _ (((Touch.refl _ _).alloc _).alloc _)).mono ?_; rintro e w' ⟨rfl, ht⟩; rw [zero16] at ht; have h2 := ((Block.new w 156 (tabV 16 fun _ => 0)).kept (((Touch.refl (fun _ => False) _).alloc _).trans ht) id); have h4 := (Block.new (w.alloc (.cells (tabV 16 fun _ => 0).toArray 156)) 156 (tabV 16 fun _ => 0)).kept ht id; rw [World.size_alloc] at h4; have hT := (((Touch.refl (fun _ => False) w).alloc _).alloc _).trans ht; clear ht)
      | (refine wpList_load_row rfl 156 (.tmp 4) rfl _ rfl _ _ _ _ h4 Tryd.underlying156 rfl Tryd.size65 ?_)
      | (refine wpList_store_row rfl 156 (.tmp 2) (.tmp 16) rfl _ _ rfl rfl _ _ h2 Tryd.size65 rfl (tabV_one _ _) ?_))
    obtain ⟨k1, k2⟩ := fin _ (w.heap.size + 1) _ (by omega) (Nat.le_refl _) h2 hT
    refine bodyPost_ret (v := .tuple #[.agg (tabV 16 fun _ => 0).toArray, .bool false]) ?_ rfl ⟨rfl, k2⟩
    rw [results_cell_tmp rfl]
    have hld := run_loadVar_row (P := Tryd.prog) _ _ _ 156 _ _ _ k1 Tryd.underlying156 rfl Tryd.size65
    simp [asAddr, Result.andThen, hld]
  · have hn : 288 < xs.length := hbad.resolve_left hb
    have hb' : bad = false := by simpa using hb
    subst hb'
    clear hbad hb
    go_enter Tryd.func112, Tryd.ntmps112
    go_wp2_with (first
      | (go_at_call 49; refine (hA _ (((Touch.refl _ _).alloc _).alloc _)).mono ?_; rintro e w' ⟨rfl, ht⟩; rw [zero16] at ht; have h2 := ((Block.new w 156 (tabV 16 fun _ => 0)).kept (((Touch.refl (fun _ => False) _).alloc _).trans ht) id); have h4 := (Block.new (w.alloc (.cells (tabV 16 fun _ => 0).toArray 156)) 156 (tabV 16 fun _ => 0)).kept ht id; rw [World.size_alloc] at h4; have hT := (((Touch.refl (fun _ => False) w).alloc _).alloc _).trans ht; clear ht)
      | (refine wpList_load_row rfl 156 (.tmp 4) rfl _ rfl _ _ _ _ h4 Tryd.underlying156 rfl Tryd.size65 ?_)
      | (refine wpList_store_row rfl 156 (.tmp 2) (.tmp 16) rfl _ _ rfl rfl _ _ h2 Tryd.size65 rfl (tabV_one _ _) ?_))
    obtain ⟨k1, k2⟩ := fin _ (w.heap.size + 1) _ (by omega) (Nat.le_refl _) h2 hT
    refine bodyPost_ret (v := .tuple #[.agg (tabV 16 fun _ => 0).toArray, .bool false]) ?_ rfl ⟨rfl, k2⟩
    rw [results_cell_tmp rfl]
    have hld := run_loadVar_row (P := Tryd.prog) _ _ _ 156 _ _ _ k1 Tryd.underlying156 rfl Tryd.size65
    simp [asAddr, Result.andThen, hld]

theorem good_any (ls : List Nat) (h : ∀ x ∈ ls, x ≤ 15) : (ls.map Int.ofNat).any badLen = false := by
  rw [List.any_eq_false]
  intro x hx
  obtain ⟨n, hn, rfl⟩ := List.mem_map.1 hx
  have := h n hn
  unfold badLen
  simp
  omega

theorem count_step (ls : List Nat) (i : Nat) (hi : i < ls.length) (k : Nat) : (if k = ls[i] then (ls.take i).count ls[i] + 1 else (ls.take i).count k) = (ls.take (i + 1)).count k := by
  rw [List.take_succ_eq_append_getElem hi, List.count_append, List.count_singleton]
  by_cases h : k = ls[i]
  · subst h; simp
  · simp [h, show ¬ ls[i] = k from fun e => h e.symm]

set_option maxHeartbeats 400000 in
theorem count_in (ls : List Nat) (v : Value) (w : World) (hv : Reads w v (intVs ls)) (h15 : ∀ x ∈ ls, x ≤ 15) (hn : ls.length ≤ 288) :
    Calls Tryd.prog 112 #[v] w fun e w' => e = .returned (.tuple #[.agg (tabV 16 (cntN ls)).toArray, .bool true]) ∧ Touch (fun _ => False) w w' := by
  obtain ⟨a, cap, hv', hc1, hc2⟩ := hv.form
  rw [intVs_length] at hv'
  subst hv'
  unfold maxLen at hc2
  rw [intVs_length] at hc1
  have hv0 : Reads w (.slice a ls.length cap) (intsV (ls.map Int.ofNat)) := by rw [intsV_nat]; exact hv
  have hA := fun (W : World) (h : Touch (fun _ => False) w W) => any_calls 140 badLen enters_bad asks_bad (ls.map Int.ofNat) _ W (hv0.still h)
  rw [good_any ls h15] at hA
  have hcell : ∀ j, (hj : j < ls.length) → ∃ g off, a = some ⟨g, off, none⟩ ∧ ∀ W, Touch (fun _ => False) w W → W.cell? ⟨g, off + j, none⟩ = some (.int .i64 (ls[j] : Nat)) := fun j hj => by
    obtain ⟨g, off, cap', he, _, _, _, hc⟩ := hv.addr (by rw [intVs_length]; omega)
    injection he with he1 _ _
    subst he1
    exact ⟨g, off, rfl, fun W hW => hW.cell (hc j _ (by simp [intVs, hj])) id⟩
  clear hv hv0
  have H15 := Lib.hid h15
  clear h15
  go_enter Tryd.func112, Tryd.ntmps112
  go_wp2_with (go_at_call 49; refine (hA _ (((Touch.refl _ _).alloc _).alloc _)).mono ?_; rintro e w' ⟨rfl, ht⟩; rw [zero16] at ht; have h2 := ((Block.new w 156 (tabV 16 fun _ => 0)).kept (((Touch.refl (fun _ => False) _).alloc _).trans ht) id); have h4 := (Block.new (w.alloc (.cells (tabV 16 fun _ => 0).toArray 156)) 156 (tabV 16 fun _ => 0)).kept ht id; rw [World.size_alloc] at h4; have hT := (((Touch.refl (fun _ => False) w).alloc _).alloc _).trans ht; clear ht)
  clear hA
  go_loopw [7, 19] (fun _ i wr => ∃ k : Nat, k ≤ ls.length ∧ i = .int .i64 k ∧ Block wr w.heap.size 156 (tabV 16 fun _ => 0) ∧ Block wr (w.heap.size + 1) 156 (tabV 16 fun n => (ls.take k).count n) ∧ Touch (fun _ => False) w wr) (fun _ i _ => ls.length - (intOf i).toNat)
  case atStart => exact ⟨0, Nat.zero_le _, rfl, h2, by simpa using h4, hT⟩
  case round =>
    clear h2 h4 hT
    obtain ⟨k, hk, rfl, h2, h4, hT⟩ := hrel
    by_cases hlt : k < ls.length
    · obtain ⟨g, off, rfl, hc⟩ := hcell k hlt
      have hc' := hc wr hT
      have hm := H15.out _ (List.getElem_mem hlt)
      generalize hx : ls[k] = x at hc' hm
      have HX := Lib.hid hx
      have H2 := Lib.hid h2
      have H4 := Lib.hid h4
      have g4 := (h4.cell x).trans (tabV_get 16 _ x (by omega))
      have f4 := h4.free x
      clear hcell hc hx h2 h4
      have hcnt : (ls.take k).count x ≤ ls.length := Nat.le_trans (List.count_le_length) (by rw [List.length_take]; omega)
      go_wp2
      go_roundw
      case rel =>
        refine ⟨k + 1, by omega, by go_num, H2.out.kept ((Touch.refl (fun j => j = w.heap.size + 1) _).setCell (Or.inl rfl) _) (by omega), ?_, hT.setCell (.inr (by simp)) _⟩
        have := H4.out.set x (.int .i64 (((ls.take k).count x + 1 : Nat) : Int))
        rw [tabV_set, tabV_congr 16 (fun j => if j = x then (ls.take k).count x + 1 else (ls.take k).count j) (fun n => (ls.take (k + 1)).count n) (fun j _ => by rw [← HX.out]; exact count_step ls k hlt j)] at this
        simpa using this
      case measure => simp [intOf]; omega
    · obtain rfl : k = ls.length := by omega
      clear hcell
      rw [List.take_length] at h4
      have f4 := h4.free 0
      have H4 := Lib.hid (show Block (wr.setCell ⟨w.heap.size + 1, 0, none⟩ (.int .i64 0)) (w.heap.size + 1) 156 (tabV 16 (cntN ls)) by
        have := h4.set 0 (.int .i64 ((0 : Nat) : Int))
        rw [tabV_set, tabV_congr 16 _ (cntN ls) (fun j _ => by unfold cntN; rfl)] at this
        exact this)
      have H2 := Lib.hid (show Block (wr.setCell ⟨w.heap.size + 1, 0, none⟩ (.int .i64 0)) w.heap.size 156 (tabV 16 fun _ => 0) from h2.kept ((Touch.refl (fun j => j = w.heap.size + 1) _).setCell (Or.inl rfl) _) (by omega))
      have hT2 := Lib.hid (hT.setCell (p := ⟨w.heap.size + 1, 0, none⟩) (.inr (by simp)) (.int .i64 0))
      have g4 := (h4.cell 0).trans (tabV_get 16 _ 0 (by omega))
      clear h2 h4 hT
      go_wp2_with (first
        | (refine wpList_load_row rfl 156 (.tmp 4) rfl _ rfl _ _ _ _ H4.out Tryd.underlying156 rfl Tryd.size65 ?_)
        | (refine wpList_store_row rfl 156 (.tmp 2) (.tmp 30) rfl _ _ rfl rfl _ _ H2.out Tryd.size65 rfl (tabV_one _ _) ?_))
      refine bodyPost_ret (v := .tuple #[.agg (tabV 16 (cntN ls)).toArray, .bool true]) ?_ rfl ⟨rfl, hT2.out.setRow (.inr (Nat.le_refl _)) _⟩
      rw [results_cell_tmp rfl]
      have hld := run_loadVar_row (P := Tryd.prog) _ _ _ 156 _ _ _ (H2.out.row (ys := tabV 16 (cntN ls)) rfl) Tryd.underlying156 rfl Tryd.size65
      simp [asAddr, Result.andThen, hld]

end Go.Proofs.YtoaeffinjpkahaaDoor
/- Contracts of package canon over the translated program: the sum of shares, copies of slices. -/
namespace Go.Proofs.YtoaeffinjpkahaaDoor
set_option linter.unusedSimpArgs false
set_option linter.unusedVariables false
open Go Go.RowKit
set_option maxRecDepth 100000

theorem below_step (ls : List Nat) (k : Nat) (_hk : k ≤ 15) : belowN ls k + cntN ls k * 2 ^ (15 - k) = belowN ls (k + 1) := by
  rw [belowN]
  unfold shareN cntN
  by_cases h : k = 0
  · simp [h]
  · simp [h]
theorem below_le (ls : List Nat) (hn : ls.length ≤ 288) (k : Nat) : belowN ls k ≤ k * 9437184 := by
  induction k with
  | zero => simp [belowN]
  | succ k ih =>
    rw [belowN]
    have h1 : cntN ls k ≤ 288 := by
      unfold cntN; split
      · omega
      · exact Nat.le_trans List.count_le_length hn
    have h2 : shareN k ≤ 2 ^ 15 := by
      unfold shareN; split
      · omega
      · exact Nat.pow_le_pow_right (by decide) (by omega)
    have h3 := Nat.mul_le_mul h1 h2
    omega

theorem wrap64_nat (x : Nat) (h : x < 9223372036854775808) : wrap64 (x : Int) = (x : Int) := by unfold wrap64; omega
theorem share_val (a b k : Nat) (h1 : b * 2 ^ k ≤ 288 * 2 ^ 15) (h2 : a ≤ 16 * 9437184) : Value.int .i64 (wrap64 ((a : Int) + wrap64 ((b : Int) * 2 ^ k))) = Value.int .i64 ((a + b * 2 ^ k : Nat) : Int) := by
  have e : (b : Int) * 2 ^ k = ((b * 2 ^ k : Nat) : Int) := by simp
  rw [e, wrap64_nat _ (by omega), show (a : Int) + ((b * 2 ^ k : Nat) : Int) = ((a + b * 2 ^ k : Nat) : Int) by simp, wrap64_nat _ (by omega)]

set_option maxHeartbeats 400000 in
theorem share_calls (ls : List Nat) (h15 : ∀ x ∈ ls, x ≤ 15) (hn : ls.length ≤ 288) (w : World) :
    Calls Tryd.prog 113 #[.agg (tabV 16 (cntN ls)).toArray] w fun e w' => e = .returned (.int .i64 (kraftN ls)) ∧ Touch (fun _ => False) w w' := by
  have hb := below_le ls hn
  have hst := fun k => below_step ls k
  have HK := Lib.hid (kraft_below ls h15)
  have hcn : ∀ k, cntN ls k ≤ 288 := fun k => by
    unfold cntN; split
    · omega
    · exact Nat.le_trans List.count_le_length hn
  clear h15
  generalize cntN ls = f at hst hcn ⊢
  generalize belowN ls = s at hb hst HK
  have HB := Lib.hid hb
  have HS := Lib.hid hst
  have HC := Lib.hid hcn
  clear hb hst hcn
  go_enter Tryd.func113, Tryd.ntmps113
  go_wp2_with (refine wpList_load_row rfl 156 (.tmp 1) rfl _ rfl _ _ _ _ (Block.new w 156 (tabV 16 f)) Tryd.underlying156 rfl Tryd.size65 ?_)
  go_loopw [3, 4, 5, 7] (fun t _ _ i wr => ∃ k : Nat, k ≤ 16 ∧ i = .int .i64 k ∧ t = .int .i64 (s k : Nat) ∧ Touch (fun _ => False) w wr) (fun _ _ _ i _ => 16 - (intOf i).toNat)
  case atStart => exact ⟨0, Nat.zero_le _, rfl, by rw [show s 0 = 0 from by have := HB.out 0; omega]; rfl, (Touch.refl _ _).alloc _⟩
  case round =>
    obtain ⟨k, hk, rfl, rfl, hT⟩ := hrel
    by_cases hlt : k < 16
    · have hg : (tabV 16 f)[k]? = some (.int .i64 (f k : Nat)) := tabV_get 16 f k hlt
      have hidx := run_index_tab (P := Tryd.prog) 156 3 16 (tabV 16 f).toArray k _ Tryd.underlying156 Tryd.sizeOf3 Tryd.isAgg3 hlt (by simpa using hg)
      have hsk2 := Lib.hid (HS.out k (by omega))
      have hfk := HC.out k
      have hpow : 2 ^ (15 - k) ≤ 2 ^ 15 := Nat.pow_le_pow_right (by decide) (by omega)
      have hmul := Nat.mul_le_mul hfk hpow
      have hsk := HB.out k
      have hval := Lib.hid (share_val (s k) (f k) (15 - k) hmul (Nat.le_trans hsk (Nat.mul_le_mul_right _ hk)))
      go_wp2
      go_roundw
      case rel => exact ⟨k + 1, by omega, by go_num, hval.out.trans (congrArg (fun n : Nat => Value.int .i64 (n : Int)) hsk2.out), hT⟩
      case measure => simp [intOf]; omega
    · obtain rfl : k = 16 := by omega
      go_wp2
      go_ret
      exact ⟨ret1 (by rw [HK.out]; rfl), hT⟩

set_option maxHeartbeats 400000 in
/-- A copy of a slice of ints. -/
theorem clone_calls (xs : List Value) (v : Value) (w : World) (hv : Reads w v xs) (h1 : ∀ u ∈ xs, u.oneCell' = true) (hn : xs.length ≤ 1048576) :
    Calls Tryd.prog 41 #[v] w fun e w' => ∃ r, e = .returned r ∧ Row w' 3 r xs ∧ Sep w.heap.size none r.ownBlock ∧ Touch (fun _ => False) w w' := by
  obtain ⟨i0, hi, hz0, hz1, hz2⟩ := info_parts Tryd.info3
  obtain ⟨a, cap, hv', hc1, hc2⟩ := hv.form
  subst hv'
  unfold maxLen at hc2
  have heq := fun (a : Option Addr) (n : Nat) (W : World) => Lib.run_eql_slice_nil (P := Tryd.prog) W 41 3 a n cap 0 0 Tryd.underlying41
  cases a with
  | none =>
    obtain rfl : xs = [] := by
      obtain ⟨a', cap', he, _, _, h3⟩ := hv
      injection he with he _ _
      subst he
      rcases h3 with h3 | ⟨_, _, h3, _⟩
      · exact h3
      · cases h3
    go_enter Tryd.func41, Tryd.ntmps41
    go_wp2
    go_ret
    exact ⟨_, rfl, Row.nil _ _, .inl rfl, Touch.refl _ _⟩
  | some a =>
    have hsrc : ∀ W, Touch (fun _ => False) w W → Src Tryd.prog 1 41 (.slice (some a) xs.length cap) xs.length xs W := fun W hW => (hv.still hW).src Tryd.underlying41 h1
    clear hv h1
    go_enter Tryd.func41, Tryd.ntmps41
    go_wp2_with (at_builtin; refine wpList_append_row _ rfl (.tmp 5) (.tmp 6) 41 41 rfl 3 i0 _ 8 Tryd.underlying41 hi hz0 hz1 hz2 rfl (.slice (some ⟨w.heap.size, 0, none⟩) 0 0) [] rfl (by exact .inr ⟨_, 0, 0, #[], rfl, heap_alloc_new w _, Nat.le_refl _, Nat.zero_le _, Nat.le_refl _, rfl⟩) (.slice (some a) xs.length cap) rfl xs.length xs (by exact hsrc _ ((Touch.refl _ _).alloc _)) (by unfold maxLen; simp; omega) (by simp; omega) ?_; intro v2 w2 hrow2 hgrow hown2)
    go_ret
    refine ⟨_, rfl, hrow2, ?_, (Touch.refl _ _).alloc _ |>.grown hgrow (fun k hk => ?_)⟩
    · rcases hown2 with h | h
      · exact .inr ⟨w.heap.size, h, Nat.le_refl _⟩
      · exact .inr ⟨_, h, by simp⟩
    · simp [Value.ownBlock] at hk
      right; omega
end Go.Proofs.YtoaeffinjpkahaaDoor
/- Plain mathematics of the order of words: the place of each symbol's word among all, by rising lengths, then by rising symbols; the word that stands next. No program is named here. -/
namespace Go.Proofs.YtoaeffinjpkahaaDoor
set_option linter.unusedSimpArgs false
set_option linter.unusedVariables false

/-- How many words are shorter than n bits. -/
def startN (l : List Nat) : Nat → Nat
  | 0 => 0
  | n + 1 => startN l n + cntN l n
/-- The place of a symbol's word. -/
def posN (l : List Nat) (s : Nat) : Nat := startN l (l.getD s 0) + (l.take s).count (l.getD s 0)

theorem start_mono (l : List Nat) {n m : Nat} (h : n ≤ m) : startN l n ≤ startN l m := by
  induction m with
  | zero => obtain rfl : n = 0 := by omega
            exact Nat.le_refl _
  | succ m ih =>
    by_cases h1 : n ≤ m
    · exact Nat.le_trans (ih h1) (Nat.le_add_right _ _)
    · obtain rfl : n = m + 1 := by omega
      exact Nat.le_refl _

theorem start_cons (x : Nat) (l : List Nat) (n : Nat) : startN (x :: l) n = startN l n + if x < n ∧ x ≠ 0 then 1 else 0 := by
  induction n with
  | zero => simp [startN]
  | succ n ih =>
    rw [startN, startN, ih, cntN_cons]
    by_cases hx : x = n
    · subst hx
      by_cases h0 : x = 0
      · simp [h0]
      · simp [h0, Nat.add_assoc]
    · by_cases hlt : x < n
      · simp [hx, hlt, show x < n + 1 by omega]; omega
      · simp [hx, hlt, show ¬ x < n + 1 by omega]

theorem start_le (l : List Nat) (n : Nat) : startN l n ≤ l.length := by
  induction l with
  | nil =>
    have : ∀ n, startN [] n = 0 := fun n => by
      induction n with
      | zero => rfl
      | succ n ih => rw [startN, ih]; simp [cntN]
    rw [this]; exact Nat.zero_le _
  | cons x l ih =>
    rw [start_cons, List.length_cons]
    split <;> omega

theorem pos_end (l : List Nat) (s : Nat) (hs : s < l.length) (h0 : l.getD s 0 ≠ 0) : posN l s + 1 ≤ startN l (l.getD s 0 + 1) := by
  have h1 := count_split l s hs
  unfold posN
  rw [startN]
  unfold cntN
  rw [if_neg h0]
  omega
theorem pos_lt (l : List Nat) (s : Nat) (hs : s < l.length) (h0 : l.getD s 0 ≠ 0) (h15 : l.getD s 0 ≤ 15) : posN l s < startN l 16 :=
  Nat.lt_of_lt_of_le (pos_end l s hs h0) (start_mono l (by omega))

theorem pos_lt_of (l : List Nat) {i k : Nat} (hi : i < l.length) (h0 : l.getD i 0 ≠ 0) (h : l.getD i 0 < l.getD k 0) : posN l i < posN l k := by
  have h1 := pos_end l i hi h0
  have h2 := start_mono l (show l.getD i 0 + 1 ≤ l.getD k 0 by omega)
  have h3 : startN l (l.getD k 0) ≤ posN l k := Nat.le_add_right _ _
  omega

theorem pos_inj (l : List Nat) {i k : Nat} (hi : i < l.length) (hk : k < l.length) (h0 : l.getD i 0 ≠ 0) (k0 : l.getD k 0 ≠ 0) (h : posN l i = posN l k) : i = k := by
  rcases Nat.lt_trichotomy (l.getD i 0) (l.getD k 0) with h1 | h1 | h1
  · have := pos_lt_of l hi h0 h1; omega
  · unfold posN at h
    rw [h1] at h
    rcases Nat.lt_trichotomy i k with h2 | h2 | h2
    · have := count_take_ne l h2 hk h1; omega
    · exact h2
    · have := count_take_ne l h2 hi h1.symm; rw [h1] at this; omega
  · have := pos_lt_of l hk k0 h1; omega

theorem pos_onto (l : List Nat) (p : Nat) (hp : p < startN l 16) : ∃ s, s < l.length ∧ l.getD s 0 ≠ 0 ∧ l.getD s 0 ≤ 15 ∧ posN l s = p := by
  have key : ∀ m, p < startN l m → ∃ n, n < m ∧ startN l n ≤ p ∧ p < startN l (n + 1) := by
    intro m
    induction m with
    | zero => intro h; simp [startN] at h
    | succ m ih =>
      intro h
      by_cases h1 : p < startN l m
      · obtain ⟨n, h2, h3⟩ := ih h1
        exact ⟨n, by omega, h3⟩
      · exact ⟨m, by omega, by omega, h⟩
  obtain ⟨n, hn, h1, h2⟩ := key 16 hp
  rw [startN] at h2
  have hn0 : n ≠ 0 := by
    intro h; subst h
    simp [cntN] at h2
    omega
  have h5 : cntN l n = l.count n := by unfold cntN; rw [if_neg hn0]
  obtain ⟨s, k1, k2, k3⟩ := nth_of_count l n (p - startN l n) (by omega)
  refine ⟨s, k1, by rw [k2]; exact hn0, by rw [k2]; omega, ?_⟩
  unfold posN
  rw [k2, k3]
  omega

theorem first_zero (l : List Nat) (n : Nat) (h : startN l n = 0) : firstN l n = 0 := by
  induction n with
  | zero => rfl
  | succ n ih =>
    rw [startN] at h
    rw [firstN, ih (by omega), show cntN l n = 0 by omega]

theorem first_gap (l : List Nat) (n d : Nat) (h : startN l (n + d) = startN l n) : firstN l (n + d) = firstN l n * 2 ^ d := by
  induction d with
  | zero => simp
  | succ d ih =>
    have h1 := start_mono l (show n ≤ n + d by omega)
    rw [← Nat.add_assoc, startN] at h
    rw [← Nat.add_assoc, firstN, ih (by omega), show cntN l (n + d) = 0 by omega, Nat.pow_succ, Nat.add_zero, Nat.mul_comm 2, Nat.mul_assoc]

theorem code_first (l : List Nat) (s : Nat) (h : posN l s = 0) : codeN l s = 0 := by
  unfold posN at h
  unfold codeN
  rw [first_zero l _ (by omega)]
  omega

/-- The next word. -/
theorem code_next (l : List Nat) {s t : Nat} (hs : s < l.length) (h0 : l.getD s 0 ≠ 0) (ht : t < l.length) (t0 : l.getD t 0 ≠ 0) (h : posN l t = posN l s + 1) :
    l.getD s 0 ≤ l.getD t 0 ∧ codeN l t = (codeN l s + 1) * 2 ^ (l.getD t 0 - l.getD s 0) := by
  rcases Nat.lt_trichotomy (l.getD s 0) (l.getD t 0) with h1 | h1 | h1
  · refine ⟨by omega, ?_⟩
    have h2 := pos_end l s hs h0
    have h3 := start_mono l (show l.getD s 0 + 1 ≤ l.getD t 0 by omega)
    have h4 : startN l (l.getD t 0) + (l.take t).count (l.getD t 0) = posN l s + 1 := h
    have h5 : posN l s = startN l (l.getD s 0) + (l.take s).count (l.getD s 0) := rfl
    have h6 : startN l (l.getD s 0 + 1) = startN l (l.getD s 0) + cntN l (l.getD s 0) := rfl
    have h7 := first_gap l (l.getD s 0 + 1) (l.getD t 0 - (l.getD s 0 + 1)) (by rw [show l.getD s 0 + 1 + (l.getD t 0 - (l.getD s 0 + 1)) = l.getD t 0 by omega]; omega)
    rw [show l.getD s 0 + 1 + (l.getD t 0 - (l.getD s 0 + 1)) = l.getD t 0 by omega, firstN] at h7
    unfold codeN
    rw [h7, show (l.take t).count (l.getD t 0) = 0 by omega, Nat.add_zero, show firstN l (l.getD s 0) + (l.take s).count (l.getD s 0) + 1 = firstN l (l.getD s 0) + cntN l (l.getD s 0) by omega,
      show l.getD t 0 - l.getD s 0 = (l.getD t 0 - (l.getD s 0 + 1)) + 1 by omega, Nat.pow_succ, Nat.mul_comm 2, Nat.mul_assoc, Nat.mul_comm 2]
  · refine ⟨by omega, ?_⟩
    unfold posN at h
    unfold codeN
    rw [h1] at h ⊢
    rw [Nat.sub_self, Nat.pow_zero]
    omega
  · have := pos_lt_of l ht t0 h1
    omega

end Go.Proofs.YtoaeffinjpkahaaDoor
/- Plain mathematics of reading a code that is told by its lengths: words as lists of bits, the highest first; which word some bits begin with, and whether one may come. No program is named here. -/
namespace Go.Proofs.YtoaeffinjpkahaaDoor
set_option linter.unusedSimpArgs false
set_option linter.unusedVariables false

/-- Bits as a number, the first one the highest. -/
def valH (b : List Nat) : Nat := numN b.reverse
/-- A word of n bits, the highest first. -/
def wordH (n c : Nat) : List Nat := (bitsN n c).reverse

theorem valH_snoc (b : List Nat) (x : Nat) : valH (b ++ [x]) = 2 * valH b + x := by
  unfold valH
  rw [List.reverse_append, List.reverse_singleton, List.singleton_append, numN_snoc_front]
theorem valH_lt (b : List Nat) (h : ∀ x ∈ b, x < 2) : valH b < 2 ^ b.length := by
  have := numN_lt b.reverse (fun x hx => h x (List.mem_reverse.1 hx))
  rwa [List.length_reverse] at this
theorem wordH_length (n c : Nat) : (wordH n c).length = n := by unfold wordH; rw [List.length_reverse, bitsN_length]
theorem wordH_lt (n c : Nat) : ∀ x ∈ wordH n c, x < 2 := fun x hx => bitsN_lt n c x (List.mem_reverse.1 hx)
theorem valH_wordH (n c : Nat) : valH (wordH n c) = c % 2 ^ n := by unfold valH wordH; rw [List.reverse_reverse, numN_bitsN]
theorem wordH_valH (b : List Nat) (h : ∀ x ∈ b, x < 2) : wordH b.length (valH b) = b := by
  have := bitsN_numN b.reverse (fun x hx => h x (List.mem_reverse.1 hx))
  unfold wordH valH
  rw [← List.length_reverse, this, List.reverse_reverse]
theorem valH_take (b : List Nat) (h : ∀ x ∈ b, x < 2) (n : Nat) (_hn : n ≤ b.length) : valH (b.take n) = valH b / 2 ^ (b.length - n) := by
  unfold valH
  rw [← numN_drop _ (fun x hx => h x (List.mem_reverse.1 hx)), List.reverse_take]

/-- A word stands at some bits' beginning. -/
theorem begins_iff (b : List Nat) (h : ∀ x ∈ b, x < 2) (n c : Nat) (hn : n ≤ b.length) (hc : c < 2 ^ n) : b.take n = wordH n c ↔ valH b / 2 ^ (b.length - n) = c := by
  rw [← valH_take b h n hn]
  constructor
  · intro e; rw [e, valH_wordH, Nat.mod_eq_of_lt hc]
  · intro e
    have h1 := wordH_valH (b.take n) (fun x hx => h x (List.mem_of_mem_take hx))
    rw [e, List.length_take, Nat.min_eq_left hn] at h1
    exact h1.symm
/-- Some bits are a word's beginning. -/
theorem comes_iff (b : List Nat) (h : ∀ x ∈ b, x < 2) (n c : Nat) (hn : b.length ≤ n) (hc : c < 2 ^ n) : (wordH n c).take b.length = b ↔ c / 2 ^ (n - b.length) = valH b := by
  have h1 := valH_take (wordH n c) (wordH_lt n c) b.length (by rw [wordH_length]; exact hn)
  rw [wordH_length, valH_wordH, Nat.mod_eq_of_lt hc] at h1
  rw [← h1]
  constructor
  · intro e; rw [e]
  · intro e
    have h2 := wordH_valH ((wordH n c).take b.length) (fun x hx => wordH_lt n c x (List.mem_of_mem_take hx))
    rw [e, List.length_take, wordH_length, Nat.min_eq_left hn, wordH_valH b h] at h2
    exact h2.symm

theorem mem_15 (l : List Nat) (hl : ∀ x ∈ l, x ≤ 15) (s : Nat) (hs : s < l.length) : l.getD s 0 ≤ 15 := by
  have : l.getD s 0 = l[s] := by simp [hs]
  rw [this]; exact hl _ (List.getElem_mem hs)

/-- Bits that lie at the shares' sum or above begin no word, and no word begins so. -/
theorem none_comes (l : List Nat) (hl : ∀ x ∈ l, x ≤ 15) (b : List Nat) (hb : b.length ≤ 15) (hk : kraftN l ≤ valH b * 2 ^ (15 - b.length)) (s : Nat) (hs : s < l.length) (h0 : l.getD s 0 ≠ 0) :
    ¬ (l.getD s 0 ≤ b.length ∧ valH b / 2 ^ (b.length - l.getD s 0) = codeN l s) ∧ ¬ (b.length ≤ l.getD s 0 ∧ codeN l s / 2 ^ (l.getD s 0 - b.length) = valH b) := by
  have h15 := mem_15 l hl s hs
  have h1 := code_end l s hs h0 h15
  have h2 := below_mono l (show l.getD s 0 + 1 ≤ 16 by omega)
  rw [← kraft_below l hl] at h2
  constructor
  · rintro ⟨h3, h4⟩
    have h5 : valH b < (codeN l s + 1) * 2 ^ (b.length - l.getD s 0) := (Nat.div_lt_iff_lt_mul (Nat.two_pow_pos _)).1 (by omega)
    have h6 : valH b * 2 ^ (15 - b.length) < (codeN l s + 1) * 2 ^ (b.length - l.getD s 0) * 2 ^ (15 - b.length) := (Nat.mul_lt_mul_right (Nat.two_pow_pos _)).2 h5
    rw [Nat.mul_assoc, ← Nat.pow_add, show b.length - l.getD s 0 + (15 - b.length) = 15 - l.getD s 0 by omega] at h6
    omega
  · rintro ⟨h3, h4⟩
    have h5 : valH b * 2 ^ (l.getD s 0 - b.length) ≤ codeN l s := (Nat.le_div_iff_mul_le (Nat.two_pow_pos _)).1 (by omega)
    have h6 : valH b * 2 ^ (l.getD s 0 - b.length) * 2 ^ (15 - l.getD s 0) ≤ codeN l s * 2 ^ (15 - l.getD s 0) := Nat.mul_le_mul_right _ h5
    rw [Nat.mul_assoc, ← Nat.pow_add, show l.getD s 0 - b.length + (15 - l.getD s 0) = 15 - b.length by omega] at h6
    rw [Nat.add_mul, Nat.one_mul] at h1
    have h7 := Nat.two_pow_pos (15 - l.getD s 0)
    omega

/-- Bits below the shares' sum begin with a word, or a word begins so. -/
theorem some_comes (l : List Nat) (hl : ∀ x ∈ l, x ≤ 15) (b : List Nat) (hb : b.length ≤ 15) (hk : valH b * 2 ^ (15 - b.length) < kraftN l) :
    ∃ s, s < l.length ∧ l.getD s 0 ≠ 0 ∧ (l.getD s 0 ≤ b.length ∧ valH b / 2 ^ (b.length - l.getD s 0) = codeN l s ∨ b.length < l.getD s 0 ∧ codeN l s / 2 ^ (l.getD s 0 - b.length) = valH b) := by
  rw [kraft_below l hl] at hk
  obtain ⟨s, hs, h0, h15, h1⟩ := complete l _ hk
  refine ⟨s, hs, h0, ?_⟩
  by_cases hle : l.getD s 0 ≤ b.length
  · refine .inl ⟨hle, ?_⟩
    rw [← h1, show 15 - l.getD s 0 = (15 - b.length) + (b.length - l.getD s 0) by omega, Nat.pow_add, ← Nat.div_div_eq_div_mul, Nat.mul_div_cancel _ (Nat.two_pow_pos _)]
  · refine .inr ⟨by omega, ?_⟩
    rw [← h1, show 15 - b.length = (l.getD s 0 - b.length) + (15 - l.getD s 0) by omega, Nat.pow_add, ← Nat.mul_assoc, Nat.mul_div_cancel _ (Nat.two_pow_pos _), Nat.mul_div_cancel _ (Nat.two_pow_pos _)]

/-- One word at most begins some bits. -/
theorem one_begins (l : List Nat) (hl : ∀ x ∈ l, x ≤ 15) (b : List Nat) {i k : Nat} (hi : i < l.length) (hk : k < l.length) (h0 : l.getD i 0 ≠ 0) (k0 : l.getD k 0 ≠ 0)
    (h1 : l.getD i 0 ≤ b.length) (h2 : valH b / 2 ^ (b.length - l.getD i 0) = codeN l i) (k1 : l.getD k 0 ≤ b.length) (k2 : valH b / 2 ^ (b.length - l.getD k 0) = codeN l k) : i = k := by
  have key : ∀ i k, i < l.length → k < l.length → l.getD i 0 ≠ 0 → l.getD i 0 ≤ l.getD k 0 → l.getD k 0 ≤ b.length → valH b / 2 ^ (b.length - l.getD i 0) = codeN l i → valH b / 2 ^ (b.length - l.getD k 0) = codeN l k → i = k := by
    intro i k hi hk h0 hle k1 h2 k2
    apply Classical.byContradiction
    intro hne
    refine apart l hi hk hne h0 hle (mem_15 l hl k hk) ?_
    rw [← k2, ← h2, Nat.div_div_eq_div_mul, ← Nat.pow_add, show b.length - l.getD k 0 + (l.getD k 0 - l.getD i 0) = b.length - l.getD i 0 by omega]
  rcases Nat.le_total (l.getD i 0) (l.getD k 0) with h | h
  · exact key i k hi hk h0 h k1 h2 k2
  · exact (key k i hk hi k0 h h1 k2 h2).symm

end Go.Proofs.YtoaeffinjpkahaaDoor
/- Contracts of package canon over the translated program: words turned round, the order of symbols, their words, new codes. -/
namespace Go.Proofs.YtoaeffinjpkahaaDoor
set_option linter.unusedSimpArgs false
set_option linter.unusedVariables false
open Go Go.RowKit
set_option maxRecDepth 100000

theorem turn_val (q m : Nat) (hq : q < 65536) (hm : m < 65536) : bits .or .u64 ((q : Int) * 2) (bits .and .u64 (m : Int) 1) = ((m % 2 + 2 * q : Nat) : Int) := by
  rw [show (1 : Int) = ((1 : Nat) : Int) from rfl, u64_and_nat m 1 (by omega) (by decide), Nat.and_one_is_mod, show (q : Int) * 2 = ((q * 2 : Nat) : Int) by simp, u64_or_nat _ _ (by omega) (by omega)]
  have h := Nat.two_pow_add_eq_or_of_lt (i := 1) (b := m % 2) (by omega) q
  rw [show q * 2 = 2 ^ 1 * q by omega, ← h]
  congr 1
  omega
theorem wordH_succ (k v : Nat) : numN (wordH (k + 1) v) = v / 2 ^ k % 2 + 2 * numN (wordH k v) := by
  unfold wordH
  rw [bitsN_snoc, List.reverse_append, List.reverse_singleton, List.singleton_append, numN_snoc_front]
  omega
theorem numN_wordH_lt (k v : Nat) : numN (wordH k v) < 2 ^ k := by
  have := numN_lt (wordH k v) (wordH_lt k v)
  rwa [wordH_length] at this

set_option maxHeartbeats 400000 in
theorem turned_calls (v n : Nat) (w : World) (hv : v < 65536) (hn : n ≤ 15) :
    Calls Tryd.prog 141 #[.int .u64 v, .int .i64 n] w fun e w' => e = .returned (.int .u64 (numN (wordH n v))) ∧ w' = w := by
  go_enter Tryd.func141, Tryd.ntmps141
  go_wp2
  go_loop [0, 5, 7] (fun x b i => ∃ k m q : Nat, k ≤ n ∧ i = .int .i64 k ∧ x = .int .u64 m ∧ b = .int .u64 q ∧ m = v / 2 ^ k ∧ q = numN (wordH k v)) (fun _ _ i => n - (intOf i).toNat)
  case atStart => exact ⟨0, v, 0, Nat.zero_le _, rfl, rfl, rfl, by simp, rfl⟩
  case round =>
    obtain ⟨k, m, q, hk, rfl, rfl, rfl, hm, hq⟩ := hrel
    by_cases hlt : k < n
    · have hmv : m < 65536 := by rw [hm]; exact Nat.lt_of_le_of_lt (Nat.div_le_self _ _) hv
      have hqv : q < 65536 := by
        rw [hq]
        exact Nat.lt_of_lt_of_le (numN_wordH_lt k v) (Nat.le_trans (Nat.pow_le_pow_right (by decide) (show k ≤ 15 by omega)) (by decide))
      have HM := Lib.hid hm
      have HQ := Lib.hid hq
      have hval := Lib.hid (turn_val q m hqv hmv)
      clear hm hq
      go_wp2
      go_round
      case rel => exact ⟨k + 1, m / 2, m % 2 + 2 * q, by omega, by go_num, by simp, by rw [hval.out], by rw [HM.out, Nat.div_div_eq_div_mul, Nat.pow_succ], by rw [wordH_succ, HM.out, HQ.out]⟩
      case measure => simp [intOf]; omega
    · obtain rfl : k = n := by omega
      go_wp2
      go_ret
      exact ⟨rfl, rfl⟩

/-- A code's cells: its lengths, its words, how many there are of each length, the order of its symbols, its greatest length. -/
structure CodeRaw (w : World) (b : Nat) (vl vw vo : Value) (f : Nat → Nat) (lg : Nat) : Prop where
  c0 : w.cell? ⟨b, 0, none⟩ = some vl
  c1 : w.cell? ⟨b, 1, none⟩ = some vw
  cc : ∀ n, n < 16 → w.cell? ⟨b, 2 + n, none⟩ = some (.int .i64 (f n : Nat))
  c18 : w.cell? ⟨b, 18, none⟩ = some vo
  c19 : w.cell? ⟨b, 19, none⟩ = some (.int .i64 (lg : Nat))
  ff : ∀ o, w.frozen? ⟨b, o, none⟩ = false
theorem CodeRaw.lt {w : World} {b : Nat} {vl vw vo : Value} {f : Nat → Nat} {lg : Nat} (h : CodeRaw w b vl vw vo f lg) : b < w.heap.size := World.block_lt_of_cell? w _ h.c0
theorem CodeRaw.kept {S : Nat → Prop} {w w' : World} {b : Nat} {vl vw vo : Value} {f : Nat → Nat} {lg : Nat} (h : CodeRaw w b vl vw vo f lg) (ht : Touch S w w') (hn : ¬ S b) : CodeRaw w' b vl vw vo f lg :=
  ⟨ht.cell h.c0 hn, ht.cell h.c1 hn, fun n hk => ht.cell (h.cc n hk) hn, ht.cell h.c18 hn, ht.cell h.c19 hn, fun o => (ht.frozen (p := ⟨b, o, none⟩) h.lt hn).trans (h.ff o)⟩
theorem CodeRaw.set1 {w : World} {b : Nat} {vl vw vo : Value} {f : Nat → Nat} {lg : Nat} (h : CodeRaw w b vl vw vo f lg) (u : Value) : CodeRaw (w.setCell ⟨b, 1, none⟩ u) b vl u vo f lg :=
  ⟨(World.cell?_setCell_other _ _ _ _ (addr_ne (by omega))).trans h.c0, World.cell?_setCell_same _ _ _ h.c1, fun n hk => (World.cell?_setCell_other _ _ _ _ (addr_ne (by omega))).trans (h.cc n hk), (World.cell?_setCell_other _ _ _ _ (addr_ne (by omega))).trans h.c18, (World.cell?_setCell_other _ _ _ _ (addr_ne (by omega))).trans h.c19, fun o => by rw [World.frozen?_setCell]; exact h.ff o⟩
theorem CodeRaw.set18 {w : World} {b : Nat} {vl vw vo : Value} {f : Nat → Nat} {lg : Nat} (h : CodeRaw w b vl vw vo f lg) (u : Value) : CodeRaw (w.setCell ⟨b, 18, none⟩ u) b vl vw u f lg :=
  ⟨(World.cell?_setCell_other _ _ _ _ (addr_ne (by omega))).trans h.c0, (World.cell?_setCell_other _ _ _ _ (addr_ne (by omega))).trans h.c1, fun n hk => (World.cell?_setCell_other _ _ _ _ (addr_ne (by omega))).trans (h.cc n hk), World.cell?_setCell_same _ _ _ h.c18, (World.cell?_setCell_other _ _ _ _ (addr_ne (by omega))).trans h.c19, fun o => by rw [World.frozen?_setCell]; exact h.ff o⟩
theorem CodeRaw.set19 {w : World} {b : Nat} {vl vw vo : Value} {f : Nat → Nat} {lg : Nat} (h : CodeRaw w b vl vw vo f lg) (n : Nat) : CodeRaw (w.setCell ⟨b, 19, none⟩ (.int .i64 (n : Nat))) b vl vw vo f n :=
  ⟨(World.cell?_setCell_other _ _ _ _ (addr_ne (by omega))).trans h.c0, (World.cell?_setCell_other _ _ _ _ (addr_ne (by omega))).trans h.c1, fun n hk => (World.cell?_setCell_other _ _ _ _ (addr_ne (by omega))).trans (h.cc n hk), (World.cell?_setCell_other _ _ _ _ (addr_ne (by omega))).trans h.c18, World.cell?_setCell_same _ _ _ h.c19, fun o => by rw [World.frozen?_setCell]; exact h.ff o⟩

/-- The greatest length below k. -/
def longN (f : Nat → Nat) : Nat → Nat
  | 0 => 0
  | k + 1 => if 0 < f k then k else longN f k

theorem zero17 : (#[Value.int .i64 0, .int .i64 0, .int .i64 0, .int .i64 0, .int .i64 0, .int .i64 0, .int .i64 0, .int .i64 0, .int .i64 0, .int .i64 0, .int .i64 0, .int .i64 0, .int .i64 0, .int .i64 0, .int .i64 0, .int .i64 0, .int .i64 0] : Array Value) = (tabV 17 fun _ => 0).toArray := rfl

theorem made_ints (n : Nat) : (madeCells (Value.int .i64 0).cells (n * 1)).toList = intVs (List.replicate n 0) := by
  rw [Nat.mul_one, show (Value.int .i64 0).cells = #[Value.int .i64 0] from rfl, toList_madeCells_one]
  simp [intVs]

set_option maxHeartbeats 800000 in
theorem order_calls (b : Nat) (ls : List Nat) (vl vw : Value) (w : World) (h15 : ∀ x ∈ ls, x ≤ 15) (hn : ls.length ≤ 288) (h : CodeRaw w b vl vw (.slice none 0 0) (cntN ls) 0) (hv : Reads w vl (intVs ls)) (hvb : vl.ownBlock ≠ some b) :
    Calls Tryd.prog 114 #[.pointer (some ⟨b, 0, none⟩)] w fun e w' => e = .returned (.tuple #[]) ∧ ∃ (g : Nat) (os : List Nat), w.heap.size ≤ g ∧
      CodeRaw w' b vl vw (.slice (some ⟨g, 0, none⟩) (startN ls 16) (startN ls 16)) (cntN ls) (longN (cntN ls) 16) ∧ Row w' 3 (.slice (some ⟨g, 0, none⟩) (startN ls 16) (startN ls 16)) (intVs os) ∧ os.length = startN ls 16 ∧
      (∀ s, s < ls.length → ls.getD s 0 ≠ 0 → os[posN ls s]? = some s) ∧ Touch (fun k => k = b) w w' := by
  obtain ⟨i0, hi, hz0, hz1, hz2⟩ := info_parts Tryd.info3
  have hlt := h.lt
  obtain ⟨al, capl, hvl, hcl1, hcl2⟩ := hv.form
  rw [intVs_length] at hvl hcl1
  unfold maxLen at hcl2
  have hcell : ∀ j, (hj : j < ls.length) → ∃ g off, al = some ⟨g, off, none⟩ ∧ g ≠ b ∧ ∀ W, Touch (fun k => k = b) w W → W.cell? ⟨g, off + j, none⟩ = some (.int .i64 (ls[j] : Nat)) := fun j hj => by
    obtain ⟨g, off, cap', he, _, _, _, hc⟩ := hv.addr (by rw [intVs_length]; omega)
    rw [hvl] at he
    injection he with he1 _ _
    subst he1
    have hgb : g ≠ b := fun e => hvb (by rw [hvl, ← e]; rfl)
    exact ⟨g, off, rfl, hgb, fun W hW => hW.cell (hc j _ (by simp [intVs, hj])) hgb⟩
  subst hvl
  clear hv hvb
  have hcn : ∀ k, cntN ls k ≤ 288 := fun k => by
    unfold cntN; split
    · omega
    · exact Nat.le_trans List.count_le_length hn
  have HC := Lib.hid hcn
  have HS := Lib.hid (start_le ls)
  have H15 := Lib.hid h15
  clear hcn h15
  have hload : ∀ j u, (tabV 16 (cntN ls))[j]? = some u → (w.alloc (.cells (tabV 17 fun _ => 0).toArray 186)).cell? ⟨b, 2 + j, none⟩ = some u := fun j u hu => by
    have hj : j < 16 := by
      have := (List.getElem?_eq_some_iff.1 hu).1
      rwa [tabV_length] at this
    rw [tabV_get 16 _ j hj] at hu
    cases hu
    exact ((Touch.refl (fun _ => False) _).alloc _).cell (h.cc j hj) id
  have hB0 := Block.new w 186 (tabV 17 fun _ => 0)
  have HR0 := Lib.hid (h.kept (S := fun _ => False) ((Touch.refl _ _).alloc (.cells (tabV 17 fun _ => 0).toArray 186)) id)
  rw [← zero17] at hload hB0 HR0
  have hT0 := (Touch.refl (fun k => k = b) w).alloc (.cells (tabV 17 fun _ => 0).toArray 186)
  rw [← zero17] at hT0
  obtain ⟨c0, -, -, c18, c19, ff⟩ := h

  go_enter Tryd.func114, Tryd.ntmps114
  go_wp2_with (refine wpList_load_cells rfl 156 (.tmp 9) rfl b 2 rfl (tabV 16 (cntN ls)) _ hload Tryd.underlying156 rfl Tryd.size65 ?_)
  clear hload c0 c18 c19 ff
  go_loopw [3, 4, 11] (fun _ _ i wr => ∃ k : Nat, k ≤ 16 ∧ i = .int .i64 k ∧ Block wr w.heap.size 186 (tabV 17 fun j => if j ≤ k then startN ls j else 0) ∧ CodeRaw wr b (.slice al ls.length capl) vw (.slice none 0 0) (cntN ls) (longN (cntN ls) k) ∧ Touch (fun k => k = b) w wr) (fun _ _ i _ => 16 - (intOf i).toNat)
  case atStart =>
    refine ⟨0, Nat.zero_le _, rfl, ?_, HR0.out, hT0⟩
    rw [tabV_congr 17 _ (fun _ => 0) (fun j _ => by by_cases h : j = 0 <;> simp [h, startN])]
    exact hB0
  case round =>
    clear hB0 HR0 hT0
    obtain ⟨k, hk, rfl, hB, hR, hT⟩ := hrel
    by_cases hlt16 : k < 16
    · have hidx := run_index_tab (P := Tryd.prog) 156 3 16 (tabV 16 (cntN ls)).toArray k _ Tryd.underlying156 Tryd.sizeOf3 Tryd.isAgg3 hlt16 (by simpa using tabV_get 16 (cntN ls) k hlt16)
      have g1 := (hB.cell k).trans (tabV_get 17 _ k (by omega))
      rw [if_pos (Nat.le_refl k)] at g1
      have f1 := hB.free (k + 1)
      have e1 := (hB.cell (k + 1)).trans (tabV_get 17 _ (k + 1) (by omega))
      have f19 := hR.ff 19
      have e19 := hR.c19
      have hc := HC.out k
      have hs := HS.out k
      have HB2 := Lib.hid (show Block (wr.setCell ⟨w.heap.size, k + 1, none⟩ (.int .i64 ((startN ls (k + 1) : Nat) : Int))) w.heap.size 186 (tabV 17 fun j => if j ≤ k + 1 then startN ls j else 0) by
        have := hB.set (k + 1) (.int .i64 ((startN ls (k + 1) : Nat) : Int))
        rw [tabV_set, tabV_congr 17 _ (fun j => if j ≤ k + 1 then startN ls j else 0) (fun j _ => by
          by_cases h1 : j = k + 1
          · simp [h1]
          · by_cases h2 : j ≤ k
            · simp [h1, h2, show j ≤ k + 1 by omega]
            · simp [h1, h2, show ¬ j ≤ k + 1 by omega])] at this
        exact this)
      have HR2 := Lib.hid (hR.kept ((Touch.refl (fun j => j = w.heap.size) _).setCell (p := ⟨w.heap.size, k + 1, none⟩) (Or.inl rfl) (.int .i64 ((startN ls (k + 1) : Nat) : Int))) (by omega))
      have HT2 := Lib.hid (hT.setCell (p := ⟨w.heap.size, k + 1, none⟩) (.inr (Nat.le_refl _)) (.int .i64 ((startN ls (k + 1) : Nat) : Int)))
      have hsum : (startN ls k : Int) + (cntN ls k : Int) = ((startN ls (k + 1) : Nat) : Int) := by rw [startN]; simp
      have hL := Lib.hid (show longN (cntN ls) (k + 1) = if 0 < cntN ls k then k else longN (cntN ls) k from rfl)
      clear hB hR hT
      generalize startN ls (k + 1) = S1 at hsum HB2 HR2 HT2
      generalize startN ls k = S0 at hsum g1 hs
      generalize hck : cntN ls k = C at hsum hidx hc hL
      clear hck
      have HSUM := Lib.hid hsum
      have hS1 : S1 ≤ 576 := by omega
      clear hsum
      by_cases hpos : 0 < C
      · go_wp2
        go_roundw
        case rel =>
          rw [HSUM.out]
          refine ⟨k + 1, by omega, by go_num, HB2.out.kept ((Touch.refl (fun j => j = b) _).setCell (Or.inl rfl) _) (by omega), ?_, HT2.out.setCell (.inl rfl) _⟩
          rw [hL.out, if_pos hpos]
          exact HR2.out.set19 k
        case measure => simp [intOf]; omega
      · go_wp2
        go_roundw
        case rel =>
          rw [HSUM.out]
          refine ⟨k + 1, by omega, by go_num, HB2.out, ?_, HT2.out⟩
          rw [hL.out, if_neg hpos]
          exact HR2.out
        case measure => simp [intOf]; omega
    · obtain rfl : k = 16 := by omega
      have HTL := Lib.hid (HS.out 16)
      have e16 := (hB.cell 16).trans (tabV_get 17 _ 16 (by omega))
      rw [if_pos (Nat.le_refl 16)] at e16
      have hTb := HTL.out
      have HPL := Lib.hid (pos_lt ls)
      generalize hTT : startN ls 16 = T at hTb e16 HPL ⊢
      have HTT := Lib.hid hTT
      clear hTT HTL
      go_wp2_with (at_make; refine wpList_make_full _ rfl (.tmp 32) (.tmp 32) 41 rfl wr.heap.size 3 i0 _ 1 Tryd.underlying41 hi hz0 hz1 .i64 .i64 _ _ T rfl rfl rfl rfl (by rw [hz2]; omega) (by unfold maxLen; omega) (Nat.le_refl _) ?_; intro w2 hown hgrow; rw [made_ints] at hown; have hR2 := hR.kept ((Touch.refl (fun _ => False) wr).grown hgrow (fun k h => by cases h)) id; have e0 := hR2.c0; have e18 := hR2.c18; have f18 := hR2.ff 18)
      have hGw : w.heap.size < wr.heap.size := hB.lt
      have hbG : b < wr.heap.size := by omega
      have hrow0 := Row.of_own hown
      have hTg := (Touch.refl (fun _ => False) wr).grown hgrow (fun k h => by cases h)
      have hrow1 := hrow0.kept ((Touch.refl (fun k => k = b) w2).setCell (p := ⟨b, 18, none⟩) (Or.inl rfl) (.slice (some ⟨wr.heap.size, 0, none⟩) T T)) (fun g hg => by simp [Value.ownBlock] at hg; omega)
      have hB2 := (hB.kept hTg id).kept ((Touch.refl (fun k => k = b) w2).setCell (p := ⟨b, 18, none⟩) (Or.inl rfl) (.slice (some ⟨wr.heap.size, 0, none⟩) T T)) (by omega)
      have hR3 := hR2.set18 (.slice (some ⟨wr.heap.size, 0, none⟩) T T)
      have hT2 := (hT.grown hgrow (fun k h => by cases h)).setCell (p := ⟨b, 18, none⟩) (Or.inl rfl) (.slice (some ⟨wr.heap.size, 0, none⟩) T T)
      generalize hGG : wr.heap.size = G at hGw hbG hrow1 hB2 hR3 hT2
      have HGG := Lib.hid hGG
      clear hGG hown hrow0 hgrow hTg hR2 e0 e18 f18 e16 hT hB hR HC
      go_loopw [5, 6, 41] (fun _ _ i w3 => ∃ (k : Nat) (os : List Nat), k ≤ ls.length ∧ i = .int .i64 k ∧ os.length = T ∧ Block w3 w.heap.size 186 (tabV 17 fun j => startN ls j + if j = 0 then 0 else (ls.take k).count j) ∧ CodeRaw w3 b (.slice al ls.length capl) vw (.slice (some ⟨G, 0, none⟩) T T) (cntN ls) (longN (cntN ls) 16) ∧ Row w3 3 (.slice (some ⟨G, 0, none⟩) T T) (intVs os) ∧ (∀ s, s < k → ls.getD s 0 ≠ 0 → os[posN ls s]? = some s) ∧ Touch (fun k => k = b) w w3) (fun _ _ i _ => ls.length - (intOf i).toNat)
      case atStart =>
        refine ⟨0, List.replicate T 0, Nat.zero_le _, rfl, by simp, ?_, hR3, hrow1, fun s hs => absurd hs (Nat.not_lt_zero _), hT2⟩
        rw [tabV_congr 17 _ (fun j => if j ≤ 16 then startN ls j else 0) (fun j hj => by
          have hj2 : j ≤ 16 := by omega
          by_cases h : j = 0 <;> simp [h, hj2])]
        exact hB2
      case round =>
        clear hB2 hR3 hrow1 hT2
        obtain ⟨k, os, hk, rfl, hol, hB, hR, hrow, hpos, hT⟩ := hrel
        by_cases hltk : k < ls.length
        · obtain ⟨g, off, rfl, hgb, hc⟩ := hcell k hltk
          have hc' := hc wr hT
          have hm := H15.out _ (List.getElem_mem hltk)
          generalize hx : ls[k] = x at hc' hm
          have HX := Lib.hid hx
          have HPOS := Lib.hid hpos
          clear hx hcell hc hpos
          have hxd : ls.getD k 0 = x := by rw [← HX.out]; simp [hltk]
          by_cases hx0 : x = 0
          · subst hx0
            have HXD := Lib.hid hxd
            clear hxd
            go_wp2
            go_roundw
            case rel =>
              refine ⟨k + 1, os, by omega, by go_num, hol, ?_, hR, hrow, fun s hs h0 => ?_, hT⟩
              · rw [tabV_congr 17 _ (fun j => startN ls j + if j = 0 then 0 else (ls.take k).count j) (fun j _ => by
                  by_cases h : j = 0
                  · simp [h]
                  · rw [if_neg h, if_neg h, ← count_step ls k hltk j, HX.out, if_neg h])]
                exact hB
              · by_cases e : s = k
                · subst e; exact absurd HXD.out h0
                · exact HPOS.out s (by omega) h0
            case measure => simp [intOf]; omega
          · have hp := HPL.out k hltk (by rw [hxd]; exact hx0) (by rw [hxd]; exact hm)
            have hpe : posN ls k = startN ls x + (ls.take k).count x := by unfold posN; rw [hxd]
            have ex := (hB.cell x).trans (tabV_get 17 _ x (by omega))
            rw [if_neg hx0, ← hpe] at ex
            have fx := hB.free x
            have e18 := hR.c18
            have hfr := hrow.free (k := posN ls k)
            have hcr := (Row.cells hrow).2 (posN ls k) _ (by rw [intVs, List.getElem?_map, List.getElem?_eq_getElem (by rw [hol]; exact hp)]; rfl)
            rw [Nat.zero_add] at hfr hcr
            have hxpos : 0 < x := by omega
            have HXD := Lib.hid hxd
            have HPE := Lib.hid hpe
            have HTL2 := Lib.hid hTb
            have hpb : posN ls k < 1000 := by omega
            have hset := Lib.hid (hrow.set (k := posN ls k) hp (.int .i64 (k : Nat)))
            have HB := Lib.hid hB
            have HR := Lib.hid hR
            have HT := Lib.hid hT
            have hGw3 := hT.size
            clear hxd hpe hB hR hrow hT hx0
            generalize hpp : posN ls k = p at hp hpb ex hfr hcr hset HPE
            have HPP := Lib.hid hpp
            clear hpp
            go_wp2
            go_region
            go_wp2
            go_roundw
            case rel =>
              have hsz : p < os.length := by rw [hol]; exact hp
              refine ⟨k + 1, os.set p k, by omega, by go_num, by simpa using hol, ?_, ?_, ?_, fun s hs h0 => ?_, ?_⟩
              · have h1 := ((HB.out.kept ((Touch.refl (fun j => j = G) _).setCell (p := ⟨G, p, none⟩) (Or.inl rfl) (.int .i64 (k : Nat))) (by omega))).set x (.int .i64 ((p + 1 : Nat) : Int))
                rw [tabV_set, tabV_congr 17 _ (fun j => startN ls j + if j = 0 then 0 else (ls.take (k + 1)).count j) (fun j _ => by
                  have h2 := count_step ls k hltk j
                  rw [HX.out] at h2
                  by_cases hj : j = x
                  · subst hj
                    rw [if_pos rfl] at h2
                    rw [if_pos rfl, if_neg (by omega), HPE.out, ← h2]
                    omega
                  · rw [if_neg hj] at h2
                    by_cases hj0 : j = 0
                    · subst hj0; simp [hj]
                    · rw [if_neg hj, if_neg hj0, if_neg hj0, h2])] at h1
                simpa using h1.drew
              · exact HR.out.kept (((Touch.refl (fun j => j = G ∨ j = w.heap.size) _).setCell (p := ⟨G, p, none⟩) (.inl (.inl rfl)) _).setCell (p := ⟨w.heap.size, x, none⟩) (.inl (.inr rfl)) _).drew (by omega)
              · have h1 := hset.out.kept ((Touch.refl (fun j => j = w.heap.size) _).setCell (p := ⟨w.heap.size, x, none⟩) (.inl rfl) (.int .i64 ((p : Int) + 1))).drew (fun g hg => by simp [Value.ownBlock] at hg; omega)
                rw [show (intVs os).set p (.int .i64 (k : Nat)) = intVs (os.set p k) by simp [intVs, List.map_set]] at h1
                simpa using h1
              · by_cases e : s = k
                · subst e
                  rw [HPP.out, List.getElem?_set_self hsz]
                · have hne : posN ls s ≠ p := fun e2 => e (pos_inj ls (by omega) hltk h0 (by rw [HXD.out]; omega) (by rw [HPP.out]; exact e2))
                  rw [List.getElem?_set_ne (fun e2 => hne e2.symm)]
                  exact HPOS.out s (by omega) h0
              · exact (HT.out.setCell (p := ⟨G, p, none⟩) (.inr (Nat.le_of_lt hGw)) _).setCell (p := ⟨w.heap.size, x, none⟩) (.inr (Nat.le_refl _)) _ |>.drew
            case measure => simp [intOf]; omega
        · obtain rfl : k = ls.length := by omega
          go_wp2
          go_end0
          refine ⟨rfl, G, os, Nat.le_of_lt hGw, ?_⟩
          rw [HTT.out]
          exact ⟨hR, hrow, hol, hpos, hT⟩
end Go.Proofs.YtoaeffinjpkahaaDoor
