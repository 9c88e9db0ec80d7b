/- Plain mathematics: bits as a number. No program is named here. -/
import Derived.WalkKit
namespace Go.Proofs.Ytimiiahhedpfaaa

/-- Some bits as a number. -/
def packF (g : Nat → Bool) : Nat → Nat
  | 0 => 0
  | k + 1 => packF g k + (if g k = true then 2 ^ k else 0)
theorem packF_lt (g : Nat → Bool) (m : Nat) : packF g m < 2 ^ m := by
  induction m with
  | zero => exact (by decide : (0 : Nat) < 2 ^ 0)
  | succ m ih =>
    show packF g m + _ < _
    rw [Nat.pow_succ]
    split <;> omega
theorem packF_bit (g : Nat → Bool) (m k : Nat) : (packF g m).testBit k = (decide (k < m) && g k) := by
  induction m with
  | zero => simp [packF]
  | succ m ih =>
    show (packF g m + _).testBit k = _
    by_cases h : g m = true
    · rw [if_pos h, Nat.add_comm]
      rcases Nat.lt_trichotomy k m with hk | hk | hk
      · rw [Nat.testBit_two_pow_add_gt hk, ih, decide_eq_true hk, decide_eq_true (show k < m + 1 by omega)]
      · subst hk
        rw [Nat.testBit_two_pow_add_eq, ih, decide_eq_false (Nat.lt_irrefl k), decide_eq_true (show k < k + 1 by omega), h]; rfl
      · have hlt : 2 ^ m + packF g m < 2 ^ k := by
          have h1 := packF_lt g m
          have h2 : 2 ^ (m + 1) ≤ 2 ^ k := Nat.pow_le_pow_right (by decide) hk
          rw [Nat.pow_succ] at h2
          omega
        rw [Nat.testBit_lt_two_pow hlt, decide_eq_false (show ¬ k < m + 1 by omega)]; rfl
    · rw [if_neg h, Nat.add_zero, ih]
      by_cases hk : k = m
      · subst hk
        rw [decide_eq_false (Nat.lt_irrefl k)]; simp [h]
      · by_cases hk2 : k < m
        · rw [decide_eq_true hk2, decide_eq_true (show k < m + 1 by omega)]
        · rw [decide_eq_false hk2, decide_eq_false (show ¬ k < m + 1 by omega)]
theorem packF_congr {g g' : Nat → Bool} {m : Nat} (h : ∀ k, k < m → g k = g' k) : packF g m = packF g' m := by
  induction m with
  | zero => rfl
  | succ m ih =>
    show packF g m + _ = packF g' m + _
    rw [ih fun k hk => h k (by omega), h m (by omega)]
theorem packF_or (g : Nat → Bool) (m j : Nat) (hj : j < m) : packF g m ||| 2 ^ j = packF (fun k => g k || decide (k = j)) m := by
  apply Nat.eq_of_testBit_eq
  intro k
  rw [Nat.testBit_or, packF_bit, packF_bit, Nat.testBit_two_pow]
  by_cases h : k = j
  · subst h
    rw [decide_eq_true hj]; simp
  · rw [decide_eq_false h, decide_eq_false (show ¬ j = k from fun e => h e.symm)]; simp
end Go.Proofs.Ytimiiahhedpfaaa
