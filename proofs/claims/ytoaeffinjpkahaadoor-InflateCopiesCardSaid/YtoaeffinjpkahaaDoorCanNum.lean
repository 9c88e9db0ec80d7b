
/- Plain mathematics of codes that are told by their lengths alone: the words by rising lengths lie side by side, none begins another one, and all bits below the shares' sum lead to one. No program is named here. -/
import Derived.WalkKit
namespace Go.Proofs.YtoaeffinjpkahaaDoor
set_option linter.unusedSimpArgs false
set_option linter.unusedVariables false

/-- How many of all words of 15 bits begin with a word of n bits (0: there is none). -/
def shareN (n : Nat) : Nat := if n = 0 then 0 else 2 ^ (15 - n)
def kraftN (l : List Nat) : Nat := (l.map shareN).sum
/-- How many words have n bits. -/
def cntN (l : List Nat) (n : Nat) : Nat := if n = 0 then 0 else l.count n
/-- The first word of n bits. -/
def firstN (l : List Nat) : Nat → Nat
  | 0 => 0
  | n + 1 => 2 * (firstN l n + cntN l n)
/-- The shares of the words below n bits. -/
def belowN (l : List Nat) : Nat → Nat
  | 0 => 0
  | n + 1 => belowN l n + cntN l n * shareN n
/-- A symbol's word. -/
def codeN (l : List Nat) (s : Nat) : Nat := firstN l (l.getD s 0) + (l.take s).count (l.getD s 0)

theorem two_pow_15 (n : Nat) (h : n < 15) : 2 ^ (15 - n) = 2 * 2 ^ (15 - (n + 1)) := by
  rw [show 15 - n = (15 - (n + 1)) + 1 by omega, Nat.pow_succ, Nat.mul_comm]

theorem first_add (l : List Nat) (n : Nat) (_hn : n ≤ 15) (h : firstN l n * 2 ^ (15 - n) = belowN l n) : (firstN l n + cntN l n) * 2 ^ (15 - n) = belowN l (n + 1) := by
  rw [Nat.add_mul, h, belowN]
  congr 1
  unfold shareN cntN
  by_cases h0 : n = 0
  · simp [h0]
  · simp [h0]

theorem first_below (l : List Nat) (n : Nat) (hn : n ≤ 15) : firstN l n * 2 ^ (15 - n) = belowN l n := by
  induction n with
  | zero => simp [firstN, belowN]
  | succ n ih =>
    have h1 := first_add l n (by omega) (ih (by omega))
    rw [← h1, firstN, two_pow_15 n (by omega), Nat.mul_comm 2, Nat.mul_assoc]

theorem cntN_cons (x : Nat) (l : List Nat) (n : Nat) : cntN (x :: l) n = cntN l n + if x = n ∧ n ≠ 0 then 1 else 0 := by
  unfold cntN
  by_cases h0 : n = 0
  · simp [h0]
  · by_cases hx : x = n <;> simp [h0, hx]

theorem belowN_cons (x : Nat) (l : List Nat) (n : Nat) : belowN (x :: l) n = belowN l n + if x < n then shareN x else 0 := by
  induction n with
  | zero => simp [belowN]
  | succ n ih =>
    rw [belowN, belowN, ih, cntN_cons, Nat.add_mul]
    by_cases hx : x = n
    · subst hx
      by_cases h0 : x = 0
      · subst h0; simp [shareN]
      · simp [h0]; omega
    · by_cases hlt : x < n
      · simp [hx, hlt, show x < n + 1 by omega]; omega
      · simp [hx, hlt, show ¬ x < n + 1 by omega]

theorem kraft_below (l : List Nat) (h : ∀ x ∈ l, x ≤ 15) : kraftN l = belowN l 16 := by
  induction l with
  | nil => decide
  | cons x l ih =>
    have hx := h x (List.mem_cons_self ..)
    rw [belowN_cons, if_pos (by omega), ← ih (fun y hy => h y (List.mem_cons_of_mem _ hy))]
    simp [kraftN, Nat.add_comm]

theorem below_mono (l : List Nat) {n m : Nat} (h : n ≤ m) : belowN l n ≤ belowN l m := by
  induction m with
  | zero => obtain rfl : n = 0 := by omega
            exact Nat.le_refl _
  | succ m ih =>
    by_cases h1 : n ≤ m
    · exact Nat.le_trans (ih h1) (Nat.le_add_right _ _)
    · obtain rfl : n = m + 1 := by omega
      exact Nat.le_refl _

theorem count_split (l : List Nat) (s : Nat) (hs : s < l.length) : (l.take s).count (l.getD s 0) + 1 ≤ l.count (l.getD s 0) := by
  have h1 : l.getD s 0 = l[s] := by simp [hs]
  have h2 : l = l.take s ++ l[s] :: l.drop (s + 1) := by simp
  rw [h1]
  generalize l[s] = x at h2 ⊢
  have h3 := congrArg (List.count x) h2
  rw [List.count_append, List.count_cons_self] at h3
  omega

theorem code_lt (l : List Nat) (s : Nat) (hs : s < l.length) (h0 : l.getD s 0 ≠ 0) : codeN l s + 1 ≤ firstN l (l.getD s 0) + cntN l (l.getD s 0) := by
  unfold codeN cntN
  rw [if_neg h0]
  have := count_split l s hs
  omega

/-- A word's place among all of 15 bits. -/
theorem code_ge (l : List Nat) (s : Nat) (h : l.getD s 0 ≤ 15) : belowN l (l.getD s 0) ≤ codeN l s * 2 ^ (15 - l.getD s 0) := by
  rw [← first_below l _ h]
  exact Nat.mul_le_mul_right _ (Nat.le_add_right _ _)
theorem code_end (l : List Nat) (s : Nat) (hs : s < l.length) (h0 : l.getD s 0 ≠ 0) (h : l.getD s 0 ≤ 15) : (codeN l s + 1) * 2 ^ (15 - l.getD s 0) ≤ belowN l (l.getD s 0 + 1) := by
  rw [← first_add l _ h (first_below l _ h)]
  exact Nat.mul_le_mul_right _ (code_lt l s hs h0)

/-- Where the shares are not too many a word has no more bits than it should. -/
theorem code_fits (l : List Nat) (s : Nat) (hs : s < l.length) (h0 : l.getD s 0 ≠ 0) (hl : ∀ x ∈ l, x ≤ 15) (hk : kraftN l ≤ 32768) : codeN l s < 2 ^ l.getD s 0 := by
  have h15 : l.getD s 0 ≤ 15 := by
    have : l.getD s 0 = l[s] := by simp [hs]
    rw [this]; exact hl _ (List.getElem_mem hs)
  have h1 := code_end l s hs h0 h15
  have h2 := below_mono l (show l.getD s 0 + 1 ≤ 16 by omega)
  rw [← kraft_below l hl] at h2
  have h3 : (codeN l s + 1) * 2 ^ (15 - l.getD s 0) ≤ 2 ^ l.getD s 0 * 2 ^ (15 - l.getD s 0) := by
    rw [← Nat.pow_add, show l.getD s 0 + (15 - l.getD s 0) = 15 by omega]
    omega
  exact Nat.le_of_mul_le_mul_right h3 (Nat.two_pow_pos _)

theorem count_take_ne (l : List Nat) {i k : Nat} (h : i < k) (hk : k < l.length) (he : l.getD i 0 = l.getD k 0) : (l.take i).count (l.getD k 0) < (l.take k).count (l.getD k 0) := by
  have h1 := count_split (l.take k) i (by rw [List.length_take]; omega)
  have h2 : (l.take k).getD i 0 = l.getD k 0 := by
    rw [← he]; simp [List.getD, List.getElem?_take, h]
  rw [h2, List.take_take, Nat.min_eq_left (by omega)] at h1
  omega

/-- No word begins another one. -/
theorem apart (l : List Nat) {i k : Nat} (hi : i < l.length) (hk : k < l.length) (hne : i ≠ k) (h0 : l.getD i 0 ≠ 0) (hle : l.getD i 0 ≤ l.getD k 0) (h15 : l.getD k 0 ≤ 15) : codeN l k / 2 ^ (l.getD k 0 - l.getD i 0) ≠ codeN l i := by
  by_cases he : l.getD i 0 = l.getD k 0
  · rw [he, Nat.sub_self, Nat.pow_zero, Nat.div_one]
    unfold codeN
    rw [he]
    rcases Nat.lt_or_gt_of_ne hne with h | h
    · have := count_take_ne l h hk he; omega
    · have := count_take_ne l h hi he.symm; rw [he] at this; omega
  · have h1 := code_end l i hi h0 (by omega)
    have h2 := below_mono l (show l.getD i 0 + 1 ≤ l.getD k 0 by omega)
    have h3 := code_ge l k h15
    have h4 : (codeN l i + 1) * 2 ^ (15 - l.getD i 0) ≤ codeN l k * 2 ^ (15 - l.getD k 0) := Nat.le_trans h1 (Nat.le_trans h2 h3)
    rw [show 15 - l.getD i 0 = (l.getD k 0 - l.getD i 0) + (15 - l.getD k 0) by omega, Nat.pow_add, ← Nat.mul_assoc] at h4
    have h5 := Nat.le_of_mul_le_mul_right h4 (Nat.two_pow_pos _)
    have h6 := (Nat.le_div_iff_mul_le (Nat.two_pow_pos (l.getD k 0 - l.getD i 0))).2 h5
    omega

theorem nth_of_count (l : List Nat) (n r : Nat) (h : r < l.count n) : ∃ s, s < l.length ∧ l.getD s 0 = n ∧ (l.take s).count n = r := by
  induction l generalizing r with
  | nil => simp at h
  | cons x l ih =>
    by_cases hx : x = n
    · cases r with
      | zero => exact ⟨0, by simp, by simp [hx], by simp⟩
      | succ r =>
        rw [List.count_cons, if_pos (by simp [hx])] at h
        obtain ⟨s, h1, h2, h3⟩ := ih r (by omega)
        exact ⟨s + 1, by simp; omega, by simpa using h2, by rw [List.take_succ_cons, List.count_cons, if_pos (by simp [hx]), h3]⟩
    · rw [List.count_cons, if_neg (by simpa using hx)] at h
      obtain ⟨s, h1, h2, h3⟩ := ih r h
      exact ⟨s + 1, by simp; omega, by simpa using h2, by rw [List.take_succ_cons, List.count_cons, if_neg (by simpa using hx), h3]; rfl⟩

theorem level_of (l : List Nat) (x m : Nat) (h : x < belowN l m) : ∃ n, n < m ∧ belowN l n ≤ x ∧ x < belowN l (n + 1) := by
  induction m with
  | zero => simp [belowN] at h
  | succ m ih =>
    by_cases h1 : x < belowN l m
    · obtain ⟨n, h2, h3⟩ := ih h1
      exact ⟨n, by omega, h3⟩
    · exact ⟨m, by omega, by omega, h⟩

/-- All bits below the shares' sum lead to a word. -/
theorem complete (l : List Nat) (x : Nat) (hx : x < belowN l 16) :
    ∃ s, s < l.length ∧ l.getD s 0 ≠ 0 ∧ l.getD s 0 ≤ 15 ∧ x / 2 ^ (15 - l.getD s 0) = codeN l s := by
  obtain ⟨n, hn, h1, h2⟩ := level_of l x 16 hx
  have hn0 : n ≠ 0 := by
    intro h; subst h
    simp [belowN, cntN] at h2
  have hb := first_below l n (by omega)
  have ha := first_add l n (by omega) hb
  have h3 : firstN l n ≤ x / 2 ^ (15 - n) := (Nat.le_div_iff_mul_le (Nat.two_pow_pos _)).2 (by rw [hb]; exact h1)
  have h4 : x / 2 ^ (15 - n) < firstN l n + cntN l n := (Nat.div_lt_iff_lt_mul (Nat.two_pow_pos _)).2 (by rw [ha]; exact h2)
  have h5 : cntN l n = l.count n := by unfold cntN; rw [if_neg hn0]
  obtain ⟨s, k1, k2, k3⟩ := nth_of_count l n (x / 2 ^ (15 - n) - firstN l n) (by omega)
  refine ⟨s, k1, by rw [k2]; exact hn0, by rw [k2]; omega, ?_⟩
  unfold codeN
  rw [k2, k3]
  omega

/-- Too many: some length has words that are too great; and the other way round. -/
theorem over_iff (l : List Nat) (hl : ∀ x ∈ l, x ≤ 15) : 32768 < kraftN l ↔ ∃ n, n ≤ 15 ∧ 2 ^ n < firstN l n + cntN l n := by
  rw [kraft_below l hl]
  constructor
  · intro h
    refine ⟨15, by omega, ?_⟩
    have := first_add l 15 (by omega) (first_below l 15 (by omega))
    simp only [Nat.sub_self, Nat.pow_zero, Nat.mul_one] at this
    have h2 : firstN l 15 + cntN l 15 = belowN l 16 := this
    rw [h2]
    exact h
  · rintro ⟨n, hn, h⟩
    have h1 := first_add l n hn (first_below l n hn)
    have h2 := below_mono l (show n + 1 ≤ 16 by omega)
    have h3 : 2 ^ n * 2 ^ (15 - n) < (firstN l n + cntN l n) * 2 ^ (15 - n) := (Nat.mul_lt_mul_right (Nat.two_pow_pos _)).2 h
    rw [← Nat.pow_add, show n + (15 - n) = 15 by omega] at h3
    omega

end Go.Proofs.YtoaeffinjpkahaaDoor
