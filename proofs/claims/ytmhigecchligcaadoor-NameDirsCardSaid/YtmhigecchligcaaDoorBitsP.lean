
/- Contracts of package bits' Reader over the translated program: Peek, Read, Take. -/
import Derived.Test.YtmhigecchligcaaDoorBitsR
namespace Go.Proofs.YtmhigecchligcaaDoor
open Go Go.RowKit
set_option maxRecDepth 100000

theorem peek_or (x : Nat) (c k : Nat) (hx : x < 2 ^ (8 * k)) (hc : c < 256) (hk : k ≤ 4) :
    bits .or .u64 (x : Int) (IntKind.u64.wrap ((c : Int) * 2 ^ (8 * k))) = ((x ||| c * 2 ^ (8 * k) : Nat) : Int) := by
  have h1 : 2 ^ (8 * k) ≤ 2 ^ 32 := Nat.pow_le_pow_right (by decide) (by omega)
  have h2 : c * 2 ^ (8 * k) ≤ 255 * 2 ^ 32 := Nat.mul_le_mul (by omega) h1
  have e2 : ((2 : Int) ^ (8 * k)) = ((2 ^ (8 * k) : Nat) : Int) := by simp
  rw [e2, show (c : Int) * ((2 ^ (8 * k) : Nat) : Int) = ((c * 2 ^ (8 * k) : Nat) : Int) by simp, wrap_u64_in _ (by omega), u64_or_nat _ _ (by omega) (by omega)]

theorem peek_and (x n : Nat) (hx : x < 18446744073709551616) (hn : n ≤ 32) :
    bits .and .u64 (x : Int) (IntKind.u64.wrap (IntKind.u64.wrap (2 ^ n) - 1)) = ((x % 2 ^ n : Nat) : Int) := by
  have hn1 : 2 ^ n ≤ 2 ^ 32 := Nat.pow_le_pow_right (by decide) hn
  have hn0 := Nat.two_pow_pos n
  have e1 : ((2 : Int) ^ n) = ((2 ^ n : Nat) : Int) := by simp
  rw [e1, wrap_u64_in _ (by omega), show ((2 ^ n : Nat) : Int) - 1 = ((2 ^ n - 1 : Nat) : Int) by omega, wrap_u64_in _ (by omega), u64_and_nat _ _ hx (by omega), Nat.and_two_pow_sub_one_eq_mod]

theorem peek_last (x g n : Nat) (hx : x < 18446744073709551616) (hn : n ≤ 32) :
    bits .and .u64 ((x : Int) / 2 ^ g) (IntKind.u64.wrap (IntKind.u64.wrap (2 ^ n) - 1)) = ((x / 2 ^ g % 2 ^ n : Nat) : Int) := by
  have e : (x : Int) / 2 ^ g = ((x / 2 ^ g : Nat) : Int) := by simp
  rw [e]
  exact peek_and _ n (Nat.lt_of_le_of_lt (Nat.div_le_self _ _) hx) hn

theorem ret2 {a b c d : Value} (h : a = c) (k : b = d) : Ending.returned (.tuple #[a, b]) = .returned (.tuple #[c, d]) := by rw [h, k]
theorem val_u64 {a b : Int} (h : a = b) : Value.int .u64 a = .int .u64 b := by rw [h]

end Go.Proofs.YtmhigecchligcaaDoor
