/- Contracts of package wal, ninth part: entries sorted by their numbers (plain part, and the closure). -/
import Derived.Test.YtpgjheckdblggaaWlG
import Derived.Test.YtpgjheckdblggaaDkE
namespace Go.Proofs.Ytpgjheckdblggaa
open Go Go.RowKit Go.Maps
set_option maxRecDepth 100000

abbrev En := Nat × List UInt8
def numE (es : List En) (j : Nat) : Nat := (es.getD j (0, [])).1
/-- Two neighbours change places. -/
def swapE (es : List En) (j : Nat) : List En := (es.set (j + 1) (es.getD j (0, []))).set j (es.getD (j + 1) (0, []))
theorem split2 : ∀ (es : List En) (j : Nat), j + 1 < es.length → ∃ A x y B, es = A ++ x :: y :: B ∧ A.length = j
  | [], j, h => by simp at h
  | [x], j, h => by simp at h
  | x :: y :: r, 0, _ => ⟨[], x, y, r, rfl, rfl⟩
  | x :: y :: r, j + 1, h => by
    obtain ⟨A, x', y', B, h1, h2⟩ := split2 (y :: r) j (by simpa using h)
    exact ⟨x :: A, x', y', B, by rw [h1]; rfl, by simp [h2]⟩
theorem swap_split (A B : List En) (x y : En) : swapE (A ++ x :: y :: B) A.length = A ++ y :: x :: B := by
  have h1 : (A ++ x :: y :: B).getD A.length (0, []) = x := by simp
  have h2 : (A ++ x :: y :: B).getD (A.length + 1) (0, []) = y := by simp [List.getD_eq_getElem?_getD, List.getElem?_append_right]
  unfold swapE
  rw [h1, h2, List.set_append_right _ _ (by omega), show A.length + 1 - A.length = 1 by omega]
  simp only [List.set_cons_succ, List.set_cons_zero]
  rw [List.set_append_right _ _ (Nat.le_refl _), Nat.sub_self]
  rfl
theorem swap_perm (es : List En) (j : Nat) (h : j + 1 < es.length) : (swapE es j).Perm es := by
  obtain ⟨A, x, y, B, rfl, rfl⟩ := split2 es j h
  rw [swap_split]
  exact List.Perm.append_left A (List.Perm.swap x y B)
theorem swap_len (es : List En) (j : Nat) : (swapE es j).length = es.length := by simp [swapE]
theorem swap_num (es : List En) (j : Nat) (h : j + 1 < es.length) (k : Nat) : numE (swapE es j) k = if k = j then numE es (j + 1) else if k = j + 1 then numE es j else numE es k := by
  unfold numE swapE
  simp only [List.getD_eq_getElem?_getD, List.getElem?_set, List.length_set]
  by_cases h1 : k = j
  · subst h1
    rw [if_pos rfl, if_pos (by omega), if_pos rfl]; rfl
  · rw [if_neg (fun e => h1 e.symm), if_neg h1]
    by_cases h2 : k = j + 1
    · subst h2
      rw [if_pos rfl, if_pos h, if_pos rfl]; rfl
    · rw [if_neg (fun e => h2 e.symm), if_neg h2]

/-- The first i are in order. -/
def SortedTo (es : List En) (i : Nat) : Prop := ∀ a b, a < b → b < i → numE es a ≤ numE es b
/-- The first i + 1 are in order but for the one at j, which is below none of those behind it. -/
def SortedBut (es : List En) (i j : Nat) : Prop := ∀ a b, a < b → b ≤ i → b ≠ j → numE es a ≤ numE es b
theorem SortedBut.start {es : List En} {i : Nat} (h : SortedTo es i) : SortedBut es i i := fun a b h1 h2 h3 => h a b h1 (by omega)
theorem SortedBut.done0 {es : List En} {i : Nat} (h : SortedBut es i 0) : SortedTo es (i + 1) := fun a b h1 h2 => h a b h1 (by omega) (by omega)
theorem SortedBut.done {es : List En} {i j : Nat} (h : SortedBut es i (j + 1)) (hle : numE es j ≤ numE es (j + 1)) : SortedTo es (i + 1) := fun a b h1 h2 => by
  by_cases hb : b = j + 1
  · subst hb
    by_cases ha : a = j
    · subst ha; exact hle
    · exact Nat.le_trans (h a j (by omega) (by omega) (by omega)) hle
  · exact h a b h1 (by omega) hb
theorem SortedBut.step {es : List En} {i j : Nat} (hj : j + 1 < es.length) (h : SortedBut es i (j + 1)) (hji : j + 1 ≤ i) (hlt : numE es (j + 1) < numE es j) : SortedBut (swapE es j) i j := fun a b h1 h2 h3 => by
  rw [swap_num es j hj a, swap_num es j hj b, if_neg h3]
  by_cases hb : b = j + 1
  · subst hb
    rw [if_pos rfl]
    by_cases ha : a = j
    · subst ha; rw [if_pos rfl]; omega
    · rw [if_neg ha, if_neg (by omega)]; exact h a j (by omega) (by omega) (by omega)
  · rw [if_neg hb]
    by_cases ha : a = j
    · rw [if_pos ha]; exact h (j + 1) b (by omega) h2 hb
    · rw [if_neg ha]
      by_cases ha2 : a = j + 1
      · rw [if_pos ha2]; exact h j b (by omega) h2 hb
      · rw [if_neg ha2]; exact h a b h1 h2 hb

theorem ucompare_isnan (x : Int) (w : World) : Calls Try.prog 74 #[.int .u64 x] w fun e w' => e = .returned (.bool false) ∧ w = w' := by
  go_enter Try.func74, Try.ntmps74
  go_wp2
  go_ret
  exact ⟨by simp, rfl⟩
theorem ucompare_calls (x y : Int) (w : World) : Calls Try.prog 59 #[.int .u64 x, .int .u64 y] w fun e w' => e = .returned (.int .i64 (cmpI x y)) ∧ w = w' := by
  by_cases h1 : x < y
  · have e1 : cmpI x y = -1 := by unfold cmpI; rw [if_pos h1]
    rw [e1]
    have d1 : decide (x < y) = true := decide_eq_true h1
    clear h1 e1
    go_enter Try.func59, Try.ntmps59
    go_wp2_with (go_at_call 74; refine (ucompare_isnan _ _).mono ?_; rintro e w' ⟨rfl, rfl⟩)
    go_ret
    exact ⟨rfl, rfl⟩
  · by_cases h2 : y < x
    · have e1 : cmpI x y = 1 := by unfold cmpI; rw [if_neg h1, if_pos h2]
      rw [e1]
      have d1 : decide (x < y) = false := decide_eq_false h1
      have d2 : decide (y < x) = true := decide_eq_true h2
      clear h1 h2 e1
      go_enter Try.func59, Try.ntmps59
      go_wp2_with (go_at_call 74; refine (ucompare_isnan _ _).mono ?_; rintro e w' ⟨rfl, rfl⟩)
      go_ret
      exact ⟨rfl, rfl⟩
    · have e1 : cmpI x y = 0 := by unfold cmpI; rw [if_neg h1, if_neg h2]
      rw [e1]
      have d1 : decide (x < y) = false := decide_eq_false h1
      have d2 : decide (y < x) = false := decide_eq_false h2
      clear h1 h2 e1
      go_enter Try.func59, Try.ntmps59
      go_wp2_with (go_at_call 74; refine (ucompare_isnan _ _).mono ?_; rintro e w' ⟨rfl, rfl⟩)
      go_ret
      exact ⟨rfl, rfl⟩

theorem byNum_calls (n m : Int) (s t : ByteArray) (w : World) : Calls Try.prog 58 #[.agg #[.int .u64 n, .string s], .agg #[.int .u64 m, .string t]] w fun e w' => e = .returned (.int .i64 (cmpI n m)) ∧ Touch (fun _ => False) w w' := by
  go_enter Try.func58, Try.ntmps58
  go_wp2_with (go_at_call 59; refine (ucompare_calls _ _ _).mono ?_; rintro e w' ⟨rfl, rfl⟩)
  go_ret
  exact ⟨rfl, ((Touch.refl _ w).alloc _).alloc _⟩

/-- Entries in a block. -/
def EBlk (w : World) (g : Nat) (es : List En) : Prop := ∃ rest, Block w g 73 (ensV es ++ rest)
theorem ensV_app (a b : List En) : ensV (a ++ b) = ensV a ++ ensV b := by simp [ensV]
theorem ensV_set (es : List En) (j : Nat) (e : En) (hj : j < es.length) (rest : List Value) : ((ensV es ++ rest).set (j * 2) (.int .u64 (e.1 : Nat))).set (j * 2 + 1) (.string ⟨e.2.toArray⟩) = ensV (es.set j e) ++ rest := by
  induction es generalizing j with
  | nil => simp at hj
  | cons a r ih =>
    have e1 : ∀ (a : En) (r : List En), ensV (a :: r) = .int .u64 (a.1 : Nat) :: .string ⟨a.2.toArray⟩ :: ensV r := fun a r => by simp [ensV, enV]
    match j, hj with
    | 0, _ => rw [e1, List.set_cons_zero, e1]; rfl
    | j + 1, hj =>
      rw [e1, List.set_cons_succ, e1, show (j + 1) * 2 = j * 2 + 1 + 1 by omega]
      simp only [List.cons_append, List.set_cons_succ]
      rw [ih j (by simpa using hj)]
theorem EBlk.set {w : World} {g : Nat} {es : List En} (h : EBlk w g es) (j : Nat) (e : En) (hj : j < es.length) : EBlk ((w.setCell ⟨g, j * 2, none⟩ (.int .u64 (e.1 : Nat))).setCell ⟨g, j * 2 + 1, none⟩ (.string ⟨e.2.toArray⟩)) g (es.set j e) := by
  obtain ⟨rest, h⟩ := h
  have := (h.set (j * 2) (.int .u64 (e.1 : Nat))).set (j * 2 + 1) (.string ⟨e.2.toArray⟩)
  rw [ensV_set es j e hj] at this
  exact ⟨rest, this⟩
theorem EBlk.cells {w : World} {g : Nat} {es : List En} (h : EBlk w g es) (j : Nat) (hj : j < es.length) : w.cell? ⟨g, j * 2, none⟩ = some (.int .u64 (numE es j : Nat)) ∧ w.cell? ⟨g, j * 2 + 1, none⟩ = some (.string ⟨(es.getD j (0, [])).2.toArray⟩) := by
  obtain ⟨rest, h⟩ := h
  obtain ⟨u0, u1⟩ := ensV_at es j hj
  have hl := ensV_len es
  have hg : es.getD j (0, []) = es[j] := by simp [List.getD_eq_getElem?_getD, List.getElem?_eq_getElem hj]
  unfold numE
  rw [hg, h.cell, h.cell, List.getElem?_append_left (by omega), List.getElem?_append_left (by omega)]
  exact ⟨u0, u1⟩
theorem EBlk.kept {S : Nat → Prop} {w w' : World} {g : Nat} {es : List En} (h : EBlk w g es) (ht : Touch S w w') (hn : ¬ S g) : EBlk w' g es := by
  obtain ⟨rest, h⟩ := h
  exact ⟨rest, h.kept ht hn⟩
theorem EBlk.free {w : World} {g : Nat} {es : List En} (h : EBlk w g es) (j : Nat) : w.frozen? ⟨g, j, none⟩ = false := by
  obtain ⟨rest, h⟩ := h
  exact h.free j

end Go.Proofs.Ytpgjheckdblggaa
