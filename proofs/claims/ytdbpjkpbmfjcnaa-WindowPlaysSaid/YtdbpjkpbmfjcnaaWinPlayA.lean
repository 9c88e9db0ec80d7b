/- The walk of layer 6's statement on a window through any acts: filled first, or not. -/
import Derived.Test.YtdbpjkpbmfjcnaaWinPlay
import Derived.Test.YtdbpjkpbmfjcnaaWinPlayO
namespace Go.Proofs.Ytdbpjkpbmfjcnaa
open Go Go.RowKit
set_option maxRecDepth 100000

theorem i64_and1 (n : Int) : bits .and .i64 n 1 = n % 2 := by
  have hk : (BitVec.ofInt 64 1).toNat = 2 ^ 1 - 1 := by decide
  have key : (BitVec.ofInt 64 n &&& BitVec.ofInt 64 1).toNat = (n % ((2 ^ 64 : Nat) : Int)).toNat % 2 ^ 1 := by
    rw [BitVec.toNat_and, BitVec.toNat_ofInt, hk, Nat.and_two_pow_sub_one_eq_mod]
  show IntKind.i64.wrap ((BitVec.ofInt 64 n &&& BitVec.ofInt 64 1).toNat : Nat) = n % 2
  rw [key, IntKind.wrap_i64]
  omega

theorem plays_calls (f : Int) (l : List PAct) (v : Value) (w : World) (hv : PActs w v l) :
    Calls Try.prog 10 #[.int .i64 f, v] w fun e w' => e = .returned (.bool true) ∧ Touch (fun _ => False) w w' := by
  by_cases h : f % 2 = 0
  · exact plays_e f l v w hv (by rw [i64_and1]; exact h)
  · exact Odd.plays_o f l v w hv (by rw [i64_and1]; omega)
end Go.Proofs.Ytdbpjkpbmfjcnaa
