
/- Plain mathematics of the order of words: the place of each symbol's word among all, by rising lengths, then by rising symbols; the word that stands next. No program is named here. -/
import Derived.Test.YthobbdnmhldglaaCanNum
namespace Go.Proofs.Ythobbdnmhldglaa

/-- How many words are shorter than n bits. -/
def startN (l : List Nat) : Nat → Nat
  | 0 => 0
  | n + 1 => startN l n + cntN l n
/-- The place of a symbol's word. -/
def posN (l : List Nat) (s : Nat) : Nat := startN l (l.getD s 0) + (l.take s).count (l.getD s 0)

theorem start_mono (l : List Nat) {n m : Nat} (h : n ≤ m) : startN l n ≤ startN l m := by
  induction m with
  | zero => obtain rfl : n = 0 := by omega
            exact Nat.le_refl _
  | succ m ih =>
    by_cases h1 : n ≤ m
    · exact Nat.le_trans (ih h1) (Nat.le_add_right _ _)
    · obtain rfl : n = m + 1 := by omega
      exact Nat.le_refl _

theorem start_cons (x : Nat) (l : List Nat) (n : Nat) : startN (x :: l) n = startN l n + if x < n ∧ x ≠ 0 then 1 else 0 := by
  induction n with
  | zero => simp [startN]
  | succ n ih =>
    rw [startN, startN, ih, cntN_cons]
    by_cases hx : x = n
    · subst hx
      by_cases h0 : x = 0
      · simp [h0]
      · simp [h0, Nat.add_assoc]
    · by_cases hlt : x < n
      · simp [hx, hlt, show x < n + 1 by omega]; omega
      · simp [hx, hlt, show ¬ x < n + 1 by omega]

theorem start_le (l : List Nat) (n : Nat) : startN l n ≤ l.length := by
  induction l with
  | nil =>
    have : ∀ n, startN [] n = 0 := fun n => by
      induction n with
      | zero => rfl
      | succ n ih => rw [startN, ih]; simp [cntN]
    rw [this]; exact Nat.zero_le _
  | cons x l ih =>
    rw [start_cons, List.length_cons]
    split <;> omega

theorem pos_end (l : List Nat) (s : Nat) (hs : s < l.length) (h0 : l.getD s 0 ≠ 0) : posN l s + 1 ≤ startN l (l.getD s 0 + 1) := by
  have h1 := count_split l s hs
  unfold posN
  rw [startN]
  unfold cntN
  rw [if_neg h0]
  omega
theorem pos_lt (l : List Nat) (s : Nat) (hs : s < l.length) (h0 : l.getD s 0 ≠ 0) (h15 : l.getD s 0 ≤ 15) : posN l s < startN l 16 :=
  Nat.lt_of_lt_of_le (pos_end l s hs h0) (start_mono l (by omega))

theorem pos_lt_of (l : List Nat) {i k : Nat} (hi : i < l.length) (h0 : l.getD i 0 ≠ 0) (h : l.getD i 0 < l.getD k 0) : posN l i < posN l k := by
  have h1 := pos_end l i hi h0
  have h2 := start_mono l (show l.getD i 0 + 1 ≤ l.getD k 0 by omega)
  have h3 : startN l (l.getD k 0) ≤ posN l k := Nat.le_add_right _ _
  omega

theorem pos_inj (l : List Nat) {i k : Nat} (hi : i < l.length) (hk : k < l.length) (h0 : l.getD i 0 ≠ 0) (k0 : l.getD k 0 ≠ 0) (h : posN l i = posN l k) : i = k := by
  rcases Nat.lt_trichotomy (l.getD i 0) (l.getD k 0) with h1 | h1 | h1
  · have := pos_lt_of l hi h0 h1; omega
  · unfold posN at h
    rw [h1] at h
    rcases Nat.lt_trichotomy i k with h2 | h2 | h2
    · have := count_take_ne l h2 hk h1; omega
    · exact h2
    · have := count_take_ne l h2 hi h1.symm; rw [h1] at this; omega
  · have := pos_lt_of l hk k0 h1; omega

theorem pos_onto (l : List Nat) (p : Nat) (hp : p < startN l 16) : ∃ s, s < l.length ∧ l.getD s 0 ≠ 0 ∧ l.getD s 0 ≤ 15 ∧ posN l s = p := by
  have key : ∀ m, p < startN l m → ∃ n, n < m ∧ startN l n ≤ p ∧ p < startN l (n + 1) := by
    intro m
    induction m with
    | zero => intro h; simp [startN] at h
    | succ m ih =>
      intro h
      by_cases h1 : p < startN l m
      · obtain ⟨n, h2, h3⟩ := ih h1
        exact ⟨n, by omega, h3⟩
      · exact ⟨m, by omega, by omega, h⟩
  obtain ⟨n, hn, h1, h2⟩ := key 16 hp
  rw [startN] at h2
  have hn0 : n ≠ 0 := by
    intro h; subst h
    simp [cntN] at h2
    omega
  have h5 : cntN l n = l.count n := by unfold cntN; rw [if_neg hn0]
  obtain ⟨s, k1, k2, k3⟩ := nth_of_count l n (p - startN l n) (by omega)
  refine ⟨s, k1, by rw [k2]; exact hn0, by rw [k2]; omega, ?_⟩
  unfold posN
  rw [k2, k3]
  omega

theorem first_zero (l : List Nat) (n : Nat) (h : startN l n = 0) : firstN l n = 0 := by
  induction n with
  | zero => rfl
  | succ n ih =>
    rw [startN] at h
    rw [firstN, ih (by omega), show cntN l n = 0 by omega]

theorem first_gap (l : List Nat) (n d : Nat) (h : startN l (n + d) = startN l n) : firstN l (n + d) = firstN l n * 2 ^ d := by
  induction d with
  | zero => simp
  | succ d ih =>
    have h1 := start_mono l (show n ≤ n + d by omega)
    rw [← Nat.add_assoc, startN] at h
    rw [← Nat.add_assoc, firstN, ih (by omega), show cntN l (n + d) = 0 by omega, Nat.pow_succ, Nat.add_zero, Nat.mul_comm 2, Nat.mul_assoc]

theorem code_first (l : List Nat) (s : Nat) (h : posN l s = 0) : codeN l s = 0 := by
  unfold posN at h
  unfold codeN
  rw [first_zero l _ (by omega)]
  omega

/-- The next word. -/
theorem code_next (l : List Nat) {s t : Nat} (hs : s < l.length) (h0 : l.getD s 0 ≠ 0) (ht : t < l.length) (t0 : l.getD t 0 ≠ 0) (h : posN l t = posN l s + 1) :
    l.getD s 0 ≤ l.getD t 0 ∧ codeN l t = (codeN l s + 1) * 2 ^ (l.getD t 0 - l.getD s 0) := by
  rcases Nat.lt_trichotomy (l.getD s 0) (l.getD t 0) with h1 | h1 | h1
  · refine ⟨by omega, ?_⟩
    have h2 := pos_end l s hs h0
    have h3 := start_mono l (show l.getD s 0 + 1 ≤ l.getD t 0 by omega)
    have h4 : startN l (l.getD t 0) + (l.take t).count (l.getD t 0) = posN l s + 1 := h
    have h5 : posN l s = startN l (l.getD s 0) + (l.take s).count (l.getD s 0) := rfl
    have h6 : startN l (l.getD s 0 + 1) = startN l (l.getD s 0) + cntN l (l.getD s 0) := rfl
    have h7 := first_gap l (l.getD s 0 + 1) (l.getD t 0 - (l.getD s 0 + 1)) (by rw [show l.getD s 0 + 1 + (l.getD t 0 - (l.getD s 0 + 1)) = l.getD t 0 by omega]; omega)
    rw [show l.getD s 0 + 1 + (l.getD t 0 - (l.getD s 0 + 1)) = l.getD t 0 by omega, firstN] at h7
    unfold codeN
    rw [h7, show (l.take t).count (l.getD t 0) = 0 by omega, Nat.add_zero, show firstN l (l.getD s 0) + (l.take s).count (l.getD s 0) + 1 = firstN l (l.getD s 0) + cntN l (l.getD s 0) by omega,
      show l.getD t 0 - l.getD s 0 = (l.getD t 0 - (l.getD s 0 + 1)) + 1 by omega, Nat.pow_succ, Nat.mul_comm 2, Nat.mul_assoc, Nat.mul_comm 2]
  · refine ⟨by omega, ?_⟩
    unfold posN at h
    unfold codeN
    rw [h1] at h ⊢
    rw [Nat.sub_self, Nat.pow_zero]
    omega
  · have := pos_lt_of l ht t0 h1
    omega

end Go.Proofs.Ythobbdnmhldglaa
