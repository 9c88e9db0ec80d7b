
/- Plain mathematics of symbols: a number is told by its symbol's least one and its extra bits. -/
import Derived.Test.YtnjgalalnnldiaaLzB
namespace Go.Proofs.Ytnjgalalnnldiaa
open Go Go.RowKit
set_option maxRecDepth 100000

theorem blen_bounds : ∀ (m : Nat), m < 2 ^ 64 → m < 2 ^ blen m ∧ (0 < m → 2 ^ (blen m - 1) ≤ m) := by
  intro m
  induction m using Nat.strongRecOn with
  | _ m ih =>
    intro h
    by_cases h0 : m = 0
    · subst h0
      exact ⟨by decide, fun h => absurd h (by decide)⟩
    · have hh : blen m = 1 + blen (m / 2) := Lib.bitLen_half m h0 h
      obtain ⟨h1, h2⟩ := ih (m / 2) (by omega) (by omega)
      rw [hh]
      constructor
      · rw [Nat.add_comm, Nat.pow_succ]
        omega
      · intro _
        by_cases h3 : m / 2 = 0
        · rw [h3]
          have : blen 0 = 0 := by decide
          rw [this]
          simp
          omega
        · have h4 := h2 (by omega)
          have h5 : 0 < blen (m / 2) := by
            rcases Nat.eq_zero_or_pos (blen (m / 2)) with h | h
            · rw [h] at h1
              simp at h1
              omega
            · exact h
          rw [show 1 + blen (m / 2) - 1 = blen (m / 2) - 1 + 1 by omega, Nat.pow_succ]
          omega

theorem split_facts (f m : Nat) (hm : m < 32768) : (bitN f m = 0 → m < 2 ^ (f + 1)) ∧ (0 < bitN f m → 2 ^ f ≤ m / 2 ^ bitN f m ∧ m / 2 ^ bitN f m < 2 ^ (f + 1)) := by
  obtain ⟨h1, h2⟩ := blen_bounds m (Nat.lt_trans hm (by decide))
  unfold bitN
  constructor
  · intro h
    exact Nat.lt_of_lt_of_le h1 (Nat.pow_le_pow_right (by decide) (by omega))
  · intro h
    have hp : 0 < m := by
      rcases Nat.eq_zero_or_pos m with h0 | h0
      · subst h0
        have : blen 0 = 0 := by decide
        omega
      · exact h0
    have h3 := h2 hp
    obtain ⟨e, he⟩ : ∃ e, e = blen m - 1 - f := ⟨_, rfl⟩
    rw [← he]
    have e1 : blen m = f + 1 + e := by omega
    rw [e1] at h1 h3
    constructor
    · rw [Nat.le_div_iff_mul_le (Nat.two_pow_pos _), ← Nat.pow_add]
      exact Nat.le_trans (Nat.pow_le_pow_right (by decide) (by omega)) h3
    · rw [Nat.div_lt_iff_lt_mul (Nat.two_pow_pos _), ← Nat.pow_add]
      exact h1

/-- A number below 2^15, told by a symbol and extra bits. -/
theorem told_facts (f m : Nat) (hf : f = 1 ∨ f = 2) (hm : m < 32768) :
    extN f (symN f m) = bitN f m ∧ leastN f (symN f m) + valN f m = m ∧ valN f m < 2 ^ bitN f m ∧ symN f m < (bitN f m + 2) * 2 ^ f := by
  obtain ⟨h1, h2⟩ := split_facts f m hm
  have h3 : symN f m = bitN f m * 2 ^ f + m / 2 ^ bitN f m := rfl
  have h4 : valN f m = m % 2 ^ bitN f m := rfl
  have h5 := Nat.div_add_mod m (2 ^ bitN f m)
  have h6 := Nat.mod_lt m (Nat.two_pow_pos (bitN f m))
  rw [← h4] at h5 h6
  generalize valN f m = V at h4 h5 h6 ⊢
  generalize symN f m = S at h3 ⊢
  generalize bitN f m = e at h1 h2 h3 h4 h5 h6 ⊢
  have hext : extN f S = e := by
    unfold extN
    rcases Nat.eq_zero_or_pos e with h0 | h0
    · rw [h0] at h3
      have := h1 h0
      simp at h3
      rcases hf with rfl | rfl <;> omega
    · have := h2 h0
      generalize m / 2 ^ e = q at this h3
      rcases hf with rfl | rfl <;> omega
  refine ⟨hext, ?_, h6, ?_⟩
  · have h7 : leastN f S = (S - extN f S * 2 ^ f) * 2 ^ extN f S := rfl
    rw [h7, hext, h3, Nat.add_sub_cancel_left, Nat.mul_comm]
    exact h5
  · rcases Nat.eq_zero_or_pos e with h0 | h0
    · rw [h0] at h3
      have := h1 h0
      simp at h3
      rcases hf with rfl | rfl <;> omega
    · have := h2 h0
      generalize m / 2 ^ e = q at this h3
      rcases hf with rfl | rfl <;> omega

theorem i64_and255 (n : Int) : bits .and .i64 n 255 = n % 256 := by
  have hk : (BitVec.ofInt 64 255).toNat = 2 ^ 8 - 1 := by decide
  have key : (BitVec.ofInt 64 n &&& BitVec.ofInt 64 255).toNat = (n % ((2 ^ 64 : Nat) : Int)).toNat % 2 ^ 8 := by
    rw [BitVec.toNat_and, BitVec.toNat_ofInt, hk, Nat.and_two_pow_sub_one_eq_mod]
  show IntKind.i64.wrap ((BitVec.ofInt 64 n &&& BitVec.ofInt 64 255).toNat : Nat) = n % 256
  rw [key, IntKind.wrap_i64]
  omega
theorem i64_and32767 (n : Int) : bits .and .i64 n 32767 = n % 32768 := by
  have hk : (BitVec.ofInt 64 32767).toNat = 2 ^ 15 - 1 := by decide
  have key : (BitVec.ofInt 64 n &&& BitVec.ofInt 64 32767).toNat = (n % ((2 ^ 64 : Nat) : Int)).toNat % 2 ^ 15 := by
    rw [BitVec.toNat_and, BitVec.toNat_ofInt, hk, Nat.and_two_pow_sub_one_eq_mod]
  show IntKind.i64.wrap ((BitVec.ofInt 64 n &&& BitVec.ofInt 64 32767).toNat : Nat) = n % 32768
  rw [key, IntKind.wrap_i64]
  omega
end Go.Proofs.Ytnjgalalnnldiaa
