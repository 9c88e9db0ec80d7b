
/- Plain mathematics of reading a code that is told by its lengths: words as lists of bits, the highest first; which word some bits begin with, and whether one may come. No program is named here. -/
import Derived.Test.YthobbdnmhldglaaNum
import Derived.Test.YthobbdnmhldglaaCanNum
namespace Go.Proofs.Ythobbdnmhldglaa

/-- Bits as a number, the first one the highest. -/
def valH (b : List Nat) : Nat := numN b.reverse
/-- A word of n bits, the highest first. -/
def wordH (n c : Nat) : List Nat := (bitsN n c).reverse

theorem valH_snoc (b : List Nat) (x : Nat) : valH (b ++ [x]) = 2 * valH b + x := by
  unfold valH
  rw [List.reverse_append, List.reverse_singleton, List.singleton_append, numN_snoc_front]
theorem valH_lt (b : List Nat) (h : ∀ x ∈ b, x < 2) : valH b < 2 ^ b.length := by
  have := numN_lt b.reverse (fun x hx => h x (List.mem_reverse.1 hx))
  rwa [List.length_reverse] at this
theorem wordH_length (n c : Nat) : (wordH n c).length = n := by unfold wordH; rw [List.length_reverse, bitsN_length]
theorem wordH_lt (n c : Nat) : ∀ x ∈ wordH n c, x < 2 := fun x hx => bitsN_lt n c x (List.mem_reverse.1 hx)
theorem valH_wordH (n c : Nat) : valH (wordH n c) = c % 2 ^ n := by unfold valH wordH; rw [List.reverse_reverse, numN_bitsN]
theorem wordH_valH (b : List Nat) (h : ∀ x ∈ b, x < 2) : wordH b.length (valH b) = b := by
  have := bitsN_numN b.reverse (fun x hx => h x (List.mem_reverse.1 hx))
  unfold wordH valH
  rw [← List.length_reverse, this, List.reverse_reverse]
theorem valH_take (b : List Nat) (h : ∀ x ∈ b, x < 2) (n : Nat) (_hn : n ≤ b.length) : valH (b.take n) = valH b / 2 ^ (b.length - n) := by
  unfold valH
  rw [← numN_drop _ (fun x hx => h x (List.mem_reverse.1 hx)), List.reverse_take]

/-- A word stands at some bits' beginning. -/
theorem begins_iff (b : List Nat) (h : ∀ x ∈ b, x < 2) (n c : Nat) (hn : n ≤ b.length) (hc : c < 2 ^ n) : b.take n = wordH n c ↔ valH b / 2 ^ (b.length - n) = c := by
  rw [← valH_take b h n hn]
  constructor
  · intro e; rw [e, valH_wordH, Nat.mod_eq_of_lt hc]
  · intro e
    have h1 := wordH_valH (b.take n) (fun x hx => h x (List.mem_of_mem_take hx))
    rw [e, List.length_take, Nat.min_eq_left hn] at h1
    exact h1.symm
/-- Some bits are a word's beginning. -/
theorem comes_iff (b : List Nat) (h : ∀ x ∈ b, x < 2) (n c : Nat) (hn : b.length ≤ n) (hc : c < 2 ^ n) : (wordH n c).take b.length = b ↔ c / 2 ^ (n - b.length) = valH b := by
  have h1 := valH_take (wordH n c) (wordH_lt n c) b.length (by rw [wordH_length]; exact hn)
  rw [wordH_length, valH_wordH, Nat.mod_eq_of_lt hc] at h1
  rw [← h1]
  constructor
  · intro e; rw [e]
  · intro e
    have h2 := wordH_valH ((wordH n c).take b.length) (fun x hx => wordH_lt n c x (List.mem_of_mem_take hx))
    rw [e, List.length_take, wordH_length, Nat.min_eq_left hn, wordH_valH b h] at h2
    exact h2.symm

theorem mem_15 (l : List Nat) (hl : ∀ x ∈ l, x ≤ 15) (s : Nat) (hs : s < l.length) : l.getD s 0 ≤ 15 := by
  have : l.getD s 0 = l[s] := by simp [hs]
  rw [this]; exact hl _ (List.getElem_mem hs)

/-- Bits that lie at the shares' sum or above begin no word, and no word begins so. -/
theorem none_comes (l : List Nat) (hl : ∀ x ∈ l, x ≤ 15) (b : List Nat) (hb : b.length ≤ 15) (hk : kraftN l ≤ valH b * 2 ^ (15 - b.length)) (s : Nat) (hs : s < l.length) (h0 : l.getD s 0 ≠ 0) :
    ¬ (l.getD s 0 ≤ b.length ∧ valH b / 2 ^ (b.length - l.getD s 0) = codeN l s) ∧ ¬ (b.length ≤ l.getD s 0 ∧ codeN l s / 2 ^ (l.getD s 0 - b.length) = valH b) := by
  have h15 := mem_15 l hl s hs
  have h1 := code_end l s hs h0 h15
  have h2 := below_mono l (show l.getD s 0 + 1 ≤ 16 by omega)
  rw [← kraft_below l hl] at h2
  constructor
  · rintro ⟨h3, h4⟩
    have h5 : valH b < (codeN l s + 1) * 2 ^ (b.length - l.getD s 0) := (Nat.div_lt_iff_lt_mul (Nat.two_pow_pos _)).1 (by omega)
    have h6 : valH b * 2 ^ (15 - b.length) < (codeN l s + 1) * 2 ^ (b.length - l.getD s 0) * 2 ^ (15 - b.length) := (Nat.mul_lt_mul_right (Nat.two_pow_pos _)).2 h5
    rw [Nat.mul_assoc, ← Nat.pow_add, show b.length - l.getD s 0 + (15 - b.length) = 15 - l.getD s 0 by omega] at h6
    omega
  · rintro ⟨h3, h4⟩
    have h5 : valH b * 2 ^ (l.getD s 0 - b.length) ≤ codeN l s := (Nat.le_div_iff_mul_le (Nat.two_pow_pos _)).1 (by omega)
    have h6 : valH b * 2 ^ (l.getD s 0 - b.length) * 2 ^ (15 - l.getD s 0) ≤ codeN l s * 2 ^ (15 - l.getD s 0) := Nat.mul_le_mul_right _ h5
    rw [Nat.mul_assoc, ← Nat.pow_add, show l.getD s 0 - b.length + (15 - l.getD s 0) = 15 - b.length by omega] at h6
    rw [Nat.add_mul, Nat.one_mul] at h1
    have h7 := Nat.two_pow_pos (15 - l.getD s 0)
    omega

/-- Bits below the shares' sum begin with a word, or a word begins so. -/
theorem some_comes (l : List Nat) (hl : ∀ x ∈ l, x ≤ 15) (b : List Nat) (hb : b.length ≤ 15) (hk : valH b * 2 ^ (15 - b.length) < kraftN l) :
    ∃ s, s < l.length ∧ l.getD s 0 ≠ 0 ∧ (l.getD s 0 ≤ b.length ∧ valH b / 2 ^ (b.length - l.getD s 0) = codeN l s ∨ b.length < l.getD s 0 ∧ codeN l s / 2 ^ (l.getD s 0 - b.length) = valH b) := by
  rw [kraft_below l hl] at hk
  obtain ⟨s, hs, h0, h15, h1⟩ := complete l _ hk
  refine ⟨s, hs, h0, ?_⟩
  by_cases hle : l.getD s 0 ≤ b.length
  · refine .inl ⟨hle, ?_⟩
    rw [← h1, show 15 - l.getD s 0 = (15 - b.length) + (b.length - l.getD s 0) by omega, Nat.pow_add, ← Nat.div_div_eq_div_mul, Nat.mul_div_cancel _ (Nat.two_pow_pos _)]
  · refine .inr ⟨by omega, ?_⟩
    rw [← h1, show 15 - b.length = (l.getD s 0 - b.length) + (15 - l.getD s 0) by omega, Nat.pow_add, ← Nat.mul_assoc, Nat.mul_div_cancel _ (Nat.two_pow_pos _), Nat.mul_div_cancel _ (Nat.two_pow_pos _)]

/-- One word at most begins some bits. -/
theorem one_begins (l : List Nat) (hl : ∀ x ∈ l, x ≤ 15) (b : List Nat) {i k : Nat} (hi : i < l.length) (hk : k < l.length) (h0 : l.getD i 0 ≠ 0) (k0 : l.getD k 0 ≠ 0)
    (h1 : l.getD i 0 ≤ b.length) (h2 : valH b / 2 ^ (b.length - l.getD i 0) = codeN l i) (k1 : l.getD k 0 ≤ b.length) (k2 : valH b / 2 ^ (b.length - l.getD k 0) = codeN l k) : i = k := by
  have key : ∀ i k, i < l.length → k < l.length → l.getD i 0 ≠ 0 → l.getD i 0 ≤ l.getD k 0 → l.getD k 0 ≤ b.length → valH b / 2 ^ (b.length - l.getD i 0) = codeN l i → valH b / 2 ^ (b.length - l.getD k 0) = codeN l k → i = k := by
    intro i k hi hk h0 hle k1 h2 k2
    apply Classical.byContradiction
    intro hne
    refine apart l hi hk hne h0 hle (mem_15 l hl k hk) ?_
    rw [← k2, ← h2, Nat.div_div_eq_div_mul, ← Nat.pow_add, show b.length - l.getD k 0 + (l.getD k 0 - l.getD i 0) = b.length - l.getD i 0 by omega]
  rcases Nat.le_total (l.getD i 0) (l.getD k 0) with h | h
  · exact key i k hi hk h0 h k1 h2 k2
  · exact (key k i hk hi k0 h h1 k2 h2).symm

end Go.Proofs.Ythobbdnmhldglaa
