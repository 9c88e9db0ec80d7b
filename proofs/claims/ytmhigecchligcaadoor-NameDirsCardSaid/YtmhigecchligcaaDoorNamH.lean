
/- The contract of the reference's reading of a text. -/
import Derived.Test.YtmhigecchligcaaDoorNamG
namespace Go.Proofs.YtmhigecchligcaaDoor
open Go Go.RowKit
set_option maxRecDepth 100000

theorem byteAt_eq (s : ByteArray) (i : Nat) (h : i < s.size) : byteAt s i = s[i].toNat := by
  unfold byteAt
  have : s.get! i = s[i] := by
    show s.data[i]! = s.data[i]
    exact getElem!_pos s.data i h
  rw [this]

theorem chkN_some (n v least k : Nat) (h : chkN n v least = some k) : k = n ∧ ¬ (v < least ∨ v > 1114111 ∨ (55296 ≤ v ∧ v ≤ 57343) ∨ v < 32 ∨ v = 127 ∨ v = 92) := by
  unfold chkN at h
  split at h
  · cases h
  · rename_i hc
    exact ⟨(Option.some.inj h).symm, hc⟩

/-- What has been read of a sign behind its first byte. -/
def accN (s : ByteArray) (pos v0 : Nat) : Nat → Nat
  | 0 => v0
  | j + 1 => 64 * accN s pos v0 j + byteAt s (pos + (j + 1)) - 128
def midAll (s : ByteArray) (pos : Nat) : Nat → Bool
  | 0 => true
  | j + 1 => midAll s pos j && midB (byteAt s (pos + (j + 1)))
theorem accN_le (s : ByteArray) (pos v0 : Nat) : ∀ j, accN s pos v0 j + 1 ≤ (v0 + 1) * 128 ^ j
  | 0 => by simp [accN]
  | j + 1 => by
    have h := accN_le s pos v0 j
    have hb := byteAt_lt s (pos + (j + 1))
    show 64 * accN s pos v0 j + byteAt s (pos + (j + 1)) - 128 + 1 ≤ _
    rw [Nat.pow_succ, ← Nat.mul_assoc]
    omega
theorem midAll_mono (s : ByteArray) (pos : Nat) : ∀ (j k : Nat), j ≤ k → midAll s pos j = false → midAll s pos k = false
  | j, 0, h, h0 => by
    have : j = 0 := by omega
    subst this; exact h0
  | j, k + 1, h, h0 => by
    by_cases e : j = k + 1
    · subst e; exact h0
    · show (midAll s pos k && _) = false
      rw [midAll_mono s pos j k (by omega) h0]; rfl

theorem step_n (s : ByteArray) (pos m : Nat) (n v0 least : Nat)
    (h : (192 ≤ byteAt s pos ∧ byteAt s pos < 224 ∧ n = 2 ∧ v0 = byteAt s pos - 192 ∧ least = 128) ∨ (224 ≤ byteAt s pos ∧ byteAt s pos < 240 ∧ n = 3 ∧ v0 = byteAt s pos - 224 ∧ least = 2048) ∨
      (240 ≤ byteAt s pos ∧ byteAt s pos < 248 ∧ n = 4 ∧ v0 = byteAt s pos - 240 ∧ least = 65536) ∨ (byteAt s pos < 128 ∧ n = 1 ∧ v0 = byteAt s pos ∧ least = 0)) (hm : 1 ≤ m) :
    refStep m (byteAt s pos) (byteAt s (pos + 1)) (byteAt s (pos + 2)) (byteAt s (pos + 3)) = if m < n then none else if midAll s pos (n - 1) = true then chkN n (accN s pos v0 (n - 1)) least else none := by
  unfold refStep
  rcases h with ⟨a, b, rfl, rfl, rfl⟩ | ⟨a, b, rfl, rfl, rfl⟩ | ⟨a, b, rfl, rfl, rfl⟩ | ⟨a, rfl, rfl, rfl⟩
  · rw [if_neg (by omega), if_pos ⟨a, b⟩]
    simp only [midAll, accN, Bool.true_and]
  · rw [if_neg (by omega), if_neg (by omega), if_pos ⟨a, b⟩]
    simp only [midAll, accN, Bool.true_and, Bool.and_eq_true]
    by_cases h1 : midB (byteAt s (pos + 1)) = true <;> by_cases h2 : midB (byteAt s (pos + 2)) = true <;> simp [h1, h2]
  · rw [if_neg (by omega), if_neg (by omega), if_neg (by omega), if_pos ⟨a, b⟩]
    simp only [midAll, accN, Bool.true_and, Bool.and_eq_true]
    by_cases h1 : midB (byteAt s (pos + 1)) = true <;> by_cases h2 : midB (byteAt s (pos + 2)) = true <;> by_cases h3 : midB (byteAt s (pos + 3)) = true <;> simp [h1, h2, h3]
  · rw [if_pos a, if_neg (by omega)]
    rfl

/-- What follows of a step for the whole. -/
theorem from_bad (s : ByteArray) (f pos : Nat) (R : Bool) (hp : pos < s.size) (ho : refStep (s.size - pos) (byteAt s pos) (byteAt s (pos + 1)) (byteAt s (pos + 2)) (byteAt s (pos + 3)) = none) (h : goodFrom s (f + 1) pos = R) : R = false := by
  unfold goodFrom at h
  rw [if_pos hp, ho] at h
  exact h.symm
theorem from_good (s : ByteArray) (f pos k : Nat) (R : Bool) (hp : pos < s.size) (ho : refStep (s.size - pos) (byteAt s pos) (byteAt s (pos + 1)) (byteAt s (pos + 2)) (byteAt s (pos + 3)) = some k) (h : goodFrom s (f + 1) pos = R) : goodFrom s f (pos + k) = R := by
  unfold goodFrom at h
  rw [if_pos hp, ho] at h
  exact h

end Go.Proofs.YtmhigecchligcaaDoor
