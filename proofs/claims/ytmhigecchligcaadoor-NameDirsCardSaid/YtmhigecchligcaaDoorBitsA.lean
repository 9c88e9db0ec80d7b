
/- Contracts of package bits over the translated program: Writer and Reader by the list of their bits, Put and Get. -/
import Derived.Test.YtmhigecchligcaaDoorRows
import Derived.Test.YtmhigecchligcaaDoorNum
import Derived.Test.YtmhigecchligcaaDoorMem
import Derived.WalkSpells
import Derived.WalkLawsBesides
import Derived.Lib.Hide
import Derived.Laws.BitsAllLaws
import Derived.RegionTactic
import Derived.BigRegion
import Derived.BigQuiet
import Derived.Deep.QuietTactic
import Derived.Deep.RegionHeld3
import Derived.Deep.RegionLaw
namespace Go.Proofs.YtmhigecchligcaaDoor
open Go Go.RowKit
set_option maxRecDepth 100000

/-- A Writer's three cells and its whole bytes. -/
structure WrRaw (w : World) (b o : Nat) (xs : List UInt8) (p s : Nat) (v : Value) : Prop where
  cells : Cell3 w b o v (.int .u64 p) (.int .i64 s)
  row : Row w 5 v (byteVs xs)
  apart : v.ownBlock ≠ some b

/-- A Writer by the list of its bits. -/
def WrAt (w : World) (b o : Nat) (l : List Nat) (row : Option Nat) : Prop :=
  ∃ xs p s v, WrRaw w b o xs p s v ∧ v.ownBlock = row ∧ s < 8 ∧ p < 2 ^ s ∧ l = bitsL xs ++ bitsN s p

theorem Tryd.info5 : (Tryd.prog.info? 5).map (fun i => (i.zero, i.size, i.bytes)) = some (some (.int .u8 0), 1, 1) := by kernel_rfl

theorem wrap_u64_in (x : Nat) (h : x < 18446744073709551616) : IntKind.u64.wrap (x : Int) = (x : Int) := by
  rw [IntKind.wrap_u64]; omega

theorem acc_val (p s n vv : Nat) (hp : p < 2 ^ s) (hs : s < 8) (h2 : n ≤ 32) (hv : vv < 18446744073709551616) :
    bits .or .u64 (p : Int) (IntKind.u64.wrap (bits .and .u64 (vv : Int) (IntKind.u64.wrap (IntKind.u64.wrap (2 ^ n) - 1)) * 2 ^ s)) = ((p + vv % 2 ^ n * 2 ^ s : Nat) : Int) := by
  have hn1 : 2 ^ n ≤ 2 ^ 32 := Nat.pow_le_pow_right (by decide) h2
  have hn0 := Nat.two_pow_pos n
  have hs1 : 2 ^ s ≤ 2 ^ 7 := Nat.pow_le_pow_right (by decide) (by omega)
  have e1 : ((2 : Int) ^ n) = ((2 ^ n : Nat) : Int) := by simp
  have e2 : ((2 : Int) ^ s) = ((2 ^ s : Nat) : Int) := by simp
  rw [e1, e2, wrap_u64_in _ (by omega), show ((2 ^ n : Nat) : Int) - 1 = ((2 ^ n - 1 : Nat) : Int) by omega, wrap_u64_in _ (by omega), u64_and_nat _ _ hv (by omega), Nat.and_two_pow_sub_one_eq_mod]
  have h3 := Nat.mod_lt vv hn0
  have h4 : vv % 2 ^ n * 2 ^ s ≤ (2 ^ 32) * 2 ^ 7 := Nat.mul_le_mul (by omega) hs1
  rw [show ((vv % 2 ^ n : Nat) : Int) * ((2 ^ s : Nat) : Int) = ((vv % 2 ^ n * 2 ^ s : Nat) : Int) by simp, wrap_u64_in _ (by omega), u64_or_nat _ _ (by omega) (by omega), or_join s p _ hp]

theorem u8_wrap (a : Nat) : IntKind.u8.wrap (a : Int) = ((UInt8.ofNat (a % 256)).toNat : Int) := by
  rw [IntKind.wrap_u8']
  simp

theorem acc_le (p s n vv : Nat) (hp : p < 2 ^ s) (hs : s < 8) (h2 : n ≤ 32) : p + vv % 2 ^ n * 2 ^ s < 549755813888 := by
  have hn1 : 2 ^ n ≤ 2 ^ 32 := Nat.pow_le_pow_right (by decide) h2
  have hn0 := Nat.two_pow_pos n
  have hs1 : 2 ^ s ≤ 2 ^ 7 := Nat.pow_le_pow_right (by decide) (by omega)
  have h3 := Nat.mod_lt vv hn0
  have h5 : (vv % 2 ^ n + 1) * 2 ^ s ≤ 2 ^ n * 2 ^ s := Nat.mul_le_mul_right _ h3
  have h4 : 2 ^ n * 2 ^ s ≤ (2 ^ 32) * 2 ^ 7 := Nat.mul_le_mul (by omega) hs1
  rw [Nat.add_mul, Nat.one_mul] at h5
  omega

theorem byteVs_snoc (xs : List UInt8) (k a : Nat) : byteVs (xs ++ leB k a) ++ [Value.int .u8 (IntKind.u8.wrap ((a / 256 ^ k : Nat) : Int))] = byteVs (xs ++ leB (k + 1) a) := by
  rw [leB_snoc, ← List.append_assoc, u8_wrap]
  simp only [byteVs, List.map_append, List.map_cons, List.map_nil]

end Go.Proofs.YtmhigecchligcaaDoor
