/- Contracts of package serial: Sort, by the library's contract of slices.SortFunc. -/
import Derived.Test.YtmjahbdengnoeaaSerC
import Derived.Test.YtmjahbdengnoeaaSerShelf
import Derived.Test.YtmjahbdengnoeaaArr
import Derived.Test.YtmjahbdengnoeaaDosQ
import Derived.Sort.Grow
namespace Go.Proofs.Ytmjahbdengnoeaa
open Go Go.RowKit Go.Maps Go.Sort Go.Shelf
set_option maxRecDepth 100000

def cmpI (x y : Int) : Int := if x < y then -1 else if y < x then 1 else 0
theorem cmpI_lt (x y : Int) : cmpI x y < 0 ↔ x < y := by
  unfold cmpI; split
  · omega
  · split <;> omega
/-- A number as the sort's element. -/
abbrev U32 := Fin 4294967296
def encU (x : U32) : Value := .int .u32 (x.val : Int)
def cfU (f : Nat) (x y : U32) : Int := cmpI (gapZ f x.val) (gapZ f y.val)
theorem ltU (f : Nat) (x y : U32) : ltOf (cfU f) x y = decide (gapZ f x.val < gapZ f y.val) := by
  unfold ltOf cfU
  by_cases h : gapZ f x.val < gapZ f y.val
  · rw [decide_eq_true h, decide_eq_true ((cmpI_lt _ _).2 h)]
  · rw [decide_eq_false h, decide_eq_false (fun h' => h ((cmpI_lt _ _).1 h'))]
theorem swoU (f : Nat) : SWO (ltOf (cfU f)) where
  irrefl x := by rw [ltU]; simp
  trans x y z h1 h2 := by rw [ltU] at *; simp at *; omega
  ntrans x y z h1 h2 := by rw [ltU] at *; simp at *; omega

theorem isnan_calls (x : Int) (w : World) : Calls Try.prog 44 #[.int .i64 x] w fun e w' => e = .returned (.bool false) ∧ w = w' := by
  go_enter Try.func44, Try.ntmps44
  go_wp2
  go_ret
  exact ⟨by simp, rfl⟩
theorem compare_calls (x y : Int) (w : World) : Calls Try.prog 32 #[.int .i64 x, .int .i64 y] w fun e w' => e = .returned (.int .i64 (cmpI x y)) ∧ w = w' := by
  by_cases h1 : x < y
  · have e1 : cmpI x y = -1 := by unfold cmpI; rw [if_pos h1]
    rw [e1]
    have d1 : decide (x < y) = true := decide_eq_true h1
    clear h1 e1
    go_enter Try.func32, Try.ntmps32
    go_wp2_with (go_at_call 44; refine (isnan_calls _ _).mono ?_; rintro e w' ⟨rfl, rfl⟩)
    go_ret
    exact ⟨rfl, rfl⟩
  · by_cases h2 : y < x
    · have e1 : cmpI x y = 1 := by unfold cmpI; rw [if_neg h1, if_pos h2]
      rw [e1]
      have d1 : decide (x < y) = false := decide_eq_false h1
      have d2 : decide (y < x) = true := decide_eq_true h2
      clear h1 h2 e1
      go_enter Try.func32, Try.ntmps32
      go_wp2_with (go_at_call 44; refine (isnan_calls _ _).mono ?_; rintro e w' ⟨rfl, rfl⟩)
      go_ret
      exact ⟨rfl, rfl⟩
    · have e1 : cmpI x y = 0 := by unfold cmpI; rw [if_neg h1, if_neg h2]
      rw [e1]
      have d1 : decide (x < y) = false := decide_eq_false h1
      have d2 : decide (y < x) = false := decide_eq_false h2
      clear h1 h2 e1
      go_enter Try.func32, Try.ntmps32
      go_wp2_with (go_at_call 44; refine (isnan_calls _ _).mono ?_; rintro e w' ⟨rfl, rfl⟩)
      go_ret
      exact ⟨rfl, rfl⟩

set_option maxHeartbeats 400000 in
/-- The closure: two numbers by their gaps from a first one. -/
theorem sort1_calls {W : World} {B f : Nat} (hf : f < 4294967296) (hB : W.cell? ⟨B, 0, none⟩ = some (.int .u32 (f : Nat))) (x y : U32) :
    Calls Try.prog 31 #[encU x, encU y, .pointer (some ⟨B, 0, none⟩)] W fun e w' => e = .returned (.int .i64 (cfU f x y)) ∧ ∃ q, w' = W.drewN q := by
  obtain ⟨x, hx⟩ := x
  obtain ⟨y, hy⟩ := y
  unfold cfU encU
  simp only
  have gx : RowKit.Hid (∀ W, Calls Try.prog 14 #[.int .u32 (f : Nat), .int .u32 (x : Nat)] W fun e w' => e = .returned (.int .i64 (gapZ f x)) ∧ w' = W) := Lib.hid (fun W => (sgap_calls f x hf hx W).mono fun _ _ ⟨he, hw⟩ => ⟨he, hw.symm⟩)
  have gy : RowKit.Hid (∀ W, Calls Try.prog 14 #[.int .u32 (f : Nat), .int .u32 (y : Nat)] W fun e w' => e = .returned (.int .i64 (gapZ f y)) ∧ w' = W) := Lib.hid (fun W => (sgap_calls f y hf hy W).mono fun _ _ ⟨he, hw⟩ => ⟨he, hw.symm⟩)
  have gc : RowKit.Hid (∀ W, Calls Try.prog 32 #[.int .i64 (gapZ f x), .int .i64 (gapZ f y)] W fun e w' => e = .returned (.int .i64 (cmpI (gapZ f x) (gapZ f y))) ∧ w' = W) := Lib.hid (fun W => (compare_calls _ _ W).mono fun _ _ ⟨he, hw⟩ => ⟨he, hw.symm⟩)
  generalize gapZ f x = a at *
  generalize gapZ f y = b at *
  go_enter Try.func31, Try.ntmps31
  go_upto_region 1 with fail
  go_quiet (first
    | (go_at_call 32; with_reducible exact Calls.quiet_of_same (gc.out _))
    | (go_at_call 14; with_reducible exact Calls.quiet_of_same (gx.out _))
    | (go_at_call 14; with_reducible exact Calls.quiet_of_same (gy.out _)))
  go_wp2
  go_ret
  exact ⟨rfl, _, rfl⟩

theorem heap_sortedU {w : World} {g off m : Nat} {os : Array Obj} {cur : Array Value} {e : TypeId} {fr : Nat × Nat} (d : Array U32) (hb : w.heap[g]? = some (.cells cur e fr)) :
    (sortWorld encU w g off m d os).heap[g]? = some (.cells (putCells encU off d cur) e fr) := by
  have hg : g < w.heap.size := (Array.getElem?_eq_some_iff.1 hb).1
  unfold sortWorld
  rw [heap_grow_old _ _ (by simpa using hg)]
  simp [putRow, mapBlock, Sort.ahead, Array.getElem?_modify, hb, onCells]
theorem touch_sortedU {w : World} {g off m : Nat} {os : Array Obj} (d : Array U32) : Touch (fun k => k = g) w (sortWorld encU w g off m d os) := by
  refine ⟨rfl, rfl, rfl, by unfold sortWorld; simp, fun k hk hne => ?_⟩
  unfold sortWorld
  rw [heap_grow_old _ _ (by simpa using hk)]
  have : g ≠ k := fun e => hne e.symm
  simp [putRow, mapBlock, Sort.ahead, Array.getElem?_modify, this]
def u32V (l : List Nat) : List Value := l.map fun (n : Nat) => Value.int .u32 (n : Int)
theorem u32V_length (l : List Nat) : (u32V l).length = l.length := by simp [u32V]
theorem u32V_get (l : List Nat) (k : Nat) (h : k < l.length) : (u32V l)[k]? = some (.int .u32 (l[k] : Nat)) := by simp [u32V, h]
theorem u32V_one (l : List Nat) : ∀ u ∈ u32V l, u.oneCell' = true := by
  intro u hu
  obtain ⟨x, _, rfl⟩ := List.mem_map.1 hu
  rfl
theorem drop_putCells (cur : Array Value) (off : Nat) (d : Array U32) (h : off + d.size ≤ cur.size) : ((putCells encU off d cur).toList.drop off).take d.size = d.toList.map encU := by
  apply List.ext_getElem?
  intro j
  by_cases hj : j < d.size
  · rw [List.getElem?_take_of_lt hj, List.getElem?_drop, Array.getElem?_toList]
    simp [putCells, hj, show off + j < cur.size by omega]
  · rw [List.getElem?_take_eq_none (by omega), List.getElem?_eq_none (by simp; omega)]
theorem encU_of (l : List Nat) (hl : ∀ n ∈ l, n < 4294967296) : ∃ d : Array U32, d.toList.map encU = u32V l ∧ d.toList.map Fin.val = l ∧ d.size = l.length := by
  induction l with
  | nil => exact ⟨#[], rfl, rfl, rfl⟩
  | cons a r ih =>
    obtain ⟨d, h1, h2, h3⟩ := ih fun n hn => hl n (List.mem_cons_of_mem _ hn)
    refine ⟨((⟨a, hl a List.mem_cons_self⟩ : U32) :: d.toList).toArray, ?_, ?_, ?_⟩
    · simp only [List.map_cons, h1]; rfl
    · simp only [List.map_cons, h2]
    · simp [h3]

theorem clone_u32 (xs : List Value) (v : Value) (w : World) (hv : Reads w v xs) (h1 : ∀ u ∈ xs, u.oneCell' = true) (hn : xs.length ≤ 1048576) :
    Calls Try.prog 29 #[v] w fun e w' => ∃ r, e = .returned r ∧ Row w' 22 r xs ∧ (∀ g, r.ownBlock = some g → w.heap.size ≤ g) ∧ Touch (fun _ => False) w w' := by
  obtain ⟨i0, hi, hz0, hz1, hz2⟩ := info_parts (show (Try.prog.info? 22).map (fun i => (i.zero, i.size, i.bytes)) = some (some (.int .u32 0), 1, 4) by kernel_rfl)
  obtain ⟨a, cap, hv', hc1, hc2⟩ := hv.form
  subst hv'
  unfold maxLen at hc2
  have heq := fun (a : Option Addr) (n : Nat) (W : World) => Lib.run_eql_slice_nil (P := Try.prog) W 29 22 a n cap 0 0 Try.underlying29
  cases a with
  | none =>
    obtain rfl : xs = [] := by
      obtain ⟨a', cap', he, _, _, h3⟩ := hv
      injection he with he _ _
      subst he
      rcases h3 with h3 | ⟨_, _, h3, _⟩
      · exact h3
      · cases h3
    go_enter Try.func29, Try.ntmps29
    go_wp2
    go_ret
    exact ⟨_, rfl, Row.nil _ _, fun g hg => (by cases hg), Touch.refl _ _⟩
  | some a =>
    have hsrc : ∀ W, Touch (fun _ => False) w W → Src Try.prog 1 29 (.slice (some a) xs.length cap) xs.length xs W := fun W hW => (hv.still hW).src Try.underlying29 h1
    clear hv h1
    go_enter Try.func29, Try.ntmps29
    go_wp2_with (at_builtin; refine wpList_append_row _ rfl (.tmp 5) (.tmp 6) 29 29 rfl 22 i0 _ 4 Try.underlying29 hi hz0 hz1 hz2 rfl (.slice (some ⟨w.heap.size, 0, none⟩) 0 0) [] rfl (by exact .inr ⟨_, 0, 0, #[], rfl, heap_alloc_new w _, Nat.le_refl _, Nat.zero_le _, Nat.le_refl _, rfl⟩) (.slice (some a) xs.length cap) rfl xs.length xs (by exact hsrc _ ((Touch.refl _ _).alloc _)) (by unfold maxLen; simp; omega) (by simp; omega) ?_; intro v2 w2 hrow2 hgrow hown2)
    go_ret
    refine ⟨_, rfl, hrow2, fun g hg => ?_, (Touch.refl _ _).alloc _ |>.grown hgrow (fun k hk => ?_)⟩
    · have hg' : v2.ownBlock = some g := hg
      rcases hown2 with h | h
      · rw [h] at hg'
        have : w.heap.size = g := Option.some.inj hg'
        omega
      · rw [h] at hg'
        have : (w.alloc (.cells #[] 22)).heap.size = g := Option.some.inj hg'
        simp at this
        omega
    · simp [Value.ownBlock] at hk
      right; omega
end Go.Proofs.Ytmjahbdengnoeaa
