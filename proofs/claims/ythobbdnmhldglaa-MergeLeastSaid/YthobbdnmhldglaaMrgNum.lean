/- Package merge, as plain lists: no program is named here. -/
import Derived.WalkKit
namespace Go.Proofs.Ythobbdnmhldglaa

abbrev Thing := Nat × Bool
/-- The pairs of the list ahead that are cheaper than c, and what is left. -/
def takeW (c : Nat) : List Thing → List Thing × List Thing
  | x :: y :: R => if x.1 + y.1 < c then ((x.1 + y.1, true) :: (takeW c R).1, (takeW c R).2) else ([], x :: y :: R)
  | r => ([], r)
def takeAll : List Thing → List Thing
  | x :: y :: R => (x.1 + y.1, true) :: takeAll R
  | _ => []
/-- One level's list: the symbols' costs and the pairs of the list ahead. -/
def mergeL : List Nat → List Thing → List Thing
  | [], rest => takeAll rest
  | c :: cs, rest => (takeW c rest).1 ++ (c, false) :: mergeL cs (takeW c rest).2
def levelM (cs : List Nat) : Nat → List Thing
  | 0 => []
  | d + 1 => mergeL cs (levelM cs d)
def sumI (l : List Thing) : Nat := (l.map Prod.fst).sum

theorem takeW_lt (c : Nat) (x y : Thing) (R : List Thing) (h : x.1 + y.1 < c) : takeW c (x :: y :: R) = ((x.1 + y.1, true) :: (takeW c R).1, (takeW c R).2) := by simp [takeW, h]
theorem takeW_ge (c : Nat) (x y : Thing) (R : List Thing) (h : ¬ x.1 + y.1 < c) : takeW c (x :: y :: R) = ([], x :: y :: R) := by simp [takeW, h]
theorem takeW_few (c : Nat) (R : List Thing) (h : R.length < 2) : takeW c R = ([], R) := by
  match R, h with
  | [], _ => rfl
  | [x], _ => rfl
theorem takeAll_few (R : List Thing) (h : R.length < 2) : takeAll R = [] := by
  match R, h with
  | [], _ => rfl
  | [x], _ => rfl

theorem sumI_cons (x : Thing) (l : List Thing) : sumI (x :: l) = x.1 + sumI l := by simp [sumI]
theorem sumI_append (a b : List Thing) : sumI (a ++ b) = sumI a + sumI b := by simp [sumI]

/-- What holds of a list and of its shorter ones by two. -/
theorem by_two {P : List Thing → Prop} (h0 : P []) (h1 : ∀ x, P [x]) (h2 : ∀ x y R, P R → P (x :: y :: R)) : ∀ l, P l
  | [] => h0
  | [x] => h1 x
  | x :: y :: R => h2 x y R (by_two h0 h1 h2 R)

theorem takeW_sum (c : Nat) (R : List Thing) : sumI (takeW c R).1 + sumI (takeW c R).2 = sumI R := by
  induction R using by_two with
  | h0 => rfl
  | h1 x => simp [takeW, sumI]
  | h2 x y R ih =>
    by_cases h : x.1 + y.1 < c
    · rw [takeW_lt c x y R h]; simp only [sumI_cons]; omega
    · rw [takeW_ge c x y R h]; simp [sumI]
theorem takeAll_sum (R : List Thing) : sumI (takeAll R) ≤ sumI R := by
  induction R using by_two with
  | h0 => exact Nat.le_refl _
  | h1 x => simp [takeAll, sumI]
  | h2 x y R ih => rw [takeAll]; simp only [sumI_cons]; omega
theorem mergeL_sum (cs : List Nat) (R : List Thing) : sumI (mergeL cs R) ≤ cs.sum + sumI R := by
  induction cs generalizing R with
  | nil => rw [mergeL]; have := takeAll_sum R; simp; omega
  | cons c cs ih =>
    rw [mergeL, sumI_append, sumI_cons, List.sum_cons]
    have h1 := takeW_sum c R
    have h2 := ih (takeW c R).2
    simp only
    omega
theorem levelM_sum (cs : List Nat) (d : Nat) : sumI (levelM cs d) ≤ d * cs.sum := by
  induction d with
  | zero => simp [levelM, sumI]
  | succ d ih => rw [levelM, Nat.succ_mul]; have := mergeL_sum cs (levelM cs d); omega

/-- How many pairs, and how many things that are none. -/
def pairsM (l : List Thing) : Nat := l.countP fun x => x.2
def singlesM (l : List Thing) : Nat := l.countP fun x => !x.2
theorem pairs_singles (l : List Thing) : pairsM l + singlesM l = l.length := by
  induction l with
  | nil => rfl
  | cons x l ih =>
    unfold pairsM singlesM at *
    rw [List.countP_cons, List.countP_cons, List.length_cons]
    cases x.2 <;> simp <;> omega

theorem takeW_pairs (c : Nat) (R : List Thing) : pairsM (takeW c R).1 = (takeW c R).1.length ∧ R.length = 2 * (takeW c R).1.length + (takeW c R).2.length := by
  induction R using by_two with
  | h0 => exact ⟨rfl, rfl⟩
  | h1 x => exact ⟨rfl, rfl⟩
  | h2 x y R ih =>
    by_cases h : x.1 + y.1 < c
    · rw [takeW_lt c x y R h]
      simp only [List.length_cons]
      refine ⟨?_, by omega⟩
      have : pairsM ((x.1 + y.1, true) :: (takeW c R).1) = pairsM (takeW c R).1 + 1 := by simp [pairsM]
      omega
    · rw [takeW_ge c x y R h]; exact ⟨rfl, by simp⟩
theorem takeAll_pairs (R : List Thing) : pairsM (takeAll R) = R.length / 2 ∧ (takeAll R).length = R.length / 2 := by
  induction R using by_two with
  | h0 => exact ⟨rfl, rfl⟩
  | h1 x => simp [takeAll, pairsM]
  | h2 x y R ih =>
    rw [takeAll]
    have : pairsM ((x.1 + y.1, true) :: takeAll R) = pairsM (takeAll R) + 1 := by simp [pairsM]
    simp only [List.length_cons]
    omega
theorem mergeL_pairs (cs : List Nat) (R : List Thing) : pairsM (mergeL cs R) = R.length / 2 ∧ (mergeL cs R).length = cs.length + R.length / 2 := by
  induction cs generalizing R with
  | nil => rw [mergeL]; simpa using takeAll_pairs R
  | cons c cs ih =>
    rw [mergeL]
    have h1 := takeW_pairs c R
    have h2 := ih (takeW c R).2
    have : pairsM ((takeW c R).1 ++ (c, false) :: mergeL cs (takeW c R).2) = pairsM (takeW c R).1 + pairsM (mergeL cs (takeW c R).2) := by simp [pairsM]
    rw [this, List.length_append, List.length_cons, List.length_cons]
    omega

theorem mergeL_singles (cs : List Nat) (R : List Thing) : singlesM (mergeL cs R) = cs.length := by
  have h1 := mergeL_pairs cs R
  have h2 := pairs_singles (mergeL cs R)
  omega

theorem levelM_short (cs : List Nat) (d : Nat) : ∃ q, 2 * cs.length ≤ (levelM cs (d + 1)).length + q ∧ (q ≤ 2 ∨ 2 ^ d * (q - 1) < cs.length) := by
  induction d with
  | zero =>
    refine ⟨cs.length, ?_, ?_⟩
    · rw [levelM, (mergeL_pairs cs _).2]; simp [levelM]; omega
    · rcases Nat.lt_or_ge 2 cs.length with h | h
      · right; omega
      · left; exact h
  | succ d ih =>
    obtain ⟨q, h1, h2⟩ := ih
    have h3 := (mergeL_pairs cs (levelM cs (d + 1))).2
    refine ⟨(q + 1) / 2, ?_, ?_⟩
    · rw [levelM, h3]; omega
    · rcases h2 with h2 | h2
      · left; omega
      · rcases Nat.lt_or_ge 2 ((q + 1) / 2) with h | h
        · right
          refine Nat.lt_of_le_of_lt ?_ h2
          rw [Nat.pow_succ, Nat.mul_assoc]
          exact Nat.mul_le_mul_left _ (by omega)
        · left; exact h

/-- The last level has things enough for a tree. -/
theorem levelM_enough (cs : List Nat) (d : Nat) (h : cs.length ≤ 2 ^ (d + 1)) : 2 * cs.length ≤ (levelM cs (d + 1)).length + 2 := by
  obtain ⟨q, h1, h2⟩ := levelM_short cs d
  rcases h2 with h2 | h2
  · omega
  · have : q - 1 < 2 := by
      rw [Nat.pow_succ] at h
      exact Nat.lt_of_mul_lt_mul_left (a := 2 ^ d) (by omega)
    omega
end Go.Proofs.Ythobbdnmhldglaa
