
/- Contracts of package match's near and hash over the translated program. -/
import Derived.Test.YtbjkoepldccaaaaLzB
namespace Go.Proofs.Ytbjkoepldccaaaa
open Go Go.RowKit
set_option maxRecDepth 100000

theorem near_calls (s : ByteArray) (w : World) (hs : s.size ≤ 1000000) : Calls Try.prog 17 #[.string s] w fun e w' => e = .returned (.string (s.extract (s.size - 32768) s.size)) ∧ w = w' := by
  rcases Nat.lt_or_ge 32768 s.size with h | h
  · have h1 : (0 : Int) ≤ (s.size : Int) - 32768 := by omega
    have h2 : max (0 : Int) ((s.size : Int) - 32768) = ((s.size - 32768 : Nat) : Int) := by omega
    go_enter Try.func17, Try.ntmps17
    go_wp2
    go_ret
    exact ⟨rfl, rfl⟩
  · have h2 : max (0 : Int) ((s.size : Int) - 32768) = 0 := by omega
    have h3 : s.size - 32768 = 0 := by omega
    rw [h3]
    go_enter Try.func17, Try.ntmps17
    go_wp2
    go_ret
    exact ⟨by simp, rfl⟩

/-- The hash of three bytes. -/
def hashI (a b c : Int) : Int := bits .or .u32 (bits .or .u32 (a % 4294967296) (b % 4294967296 * 256 % 4294967296)) (c % 4294967296 * 65536 % 4294967296) * 2654435761 % 4294967296 / 65536
/-- The hash of the bytes at a place. -/
def hashN (X : List UInt8) (i : Nat) : Nat := (hashI ((X.getD i 0).toNat : Nat) ((X.getD (i + 1) 0).toNat : Nat) ((X.getD (i + 2) 0).toNat : Nat)).toNat
theorem hashI_bounds (a b c : Int) : 0 ≤ hashI a b c ∧ hashI a b c < 65536 := by
  unfold hashI
  generalize bits .or .u32 (bits .or .u32 (a % 4294967296) (b % 4294967296 * 256 % 4294967296)) (c % 4294967296 * 65536 % 4294967296) * 2654435761 = z
  omega
theorem hashN_lt (X : List UInt8) (i : Nat) : hashN X i < 65536 := by
  have := hashI_bounds ((X.getD i 0).toNat : Nat) ((X.getD (i + 1) 0).toNat : Nat) ((X.getD (i + 2) 0).toNat : Nat)
  unfold hashN
  omega
theorem hashN_int (X : List UInt8) (i : Nat) : ((hashN X i : Nat) : Int) = hashI ((X.getD i 0).toNat : Nat) ((X.getD (i + 1) 0).toNat : Nat) ((X.getD (i + 2) 0).toNat : Nat) := by
  have := hashI_bounds ((X.getD i 0).toNat : Nat) ((X.getD (i + 1) 0).toNat : Nat) ((X.getD (i + 2) 0).toNat : Nat)
  unfold hashN
  omega
/-- Places whose first three bytes are the same have the same hash. -/
theorem hashN_same (X : List UInt8) (i j : Nat) (h : ∀ k, k < 3 → X.getD (i + k) 0 = X.getD (j + k) 0) : hashN X i = hashN X j := by
  unfold hashN
  have h0 := h 0 (by decide)
  rw [Nat.add_zero, Nat.add_zero] at h0
  rw [h0, h 1 (by decide), h 2 (by decide)]
theorem ext_byte (T : ByteArray) (i n k : Nat) (h : i + n ≤ T.size) (hk : k < n) (hb : k < (T.extract i (i + n)).size) : (T.extract i (i + n))[k] = T.data.toList.getD (i + k) 0 := by
  have h1 : i + k < T.data.toList.length := by rw [data_length]; omega
  rw [List.getD_eq_getElem?_getD, List.getElem?_eq_getElem h1, Option.getD_some]
  rw [ByteArray.getElem_eq_getElem_data]
  simp

set_option maxHeartbeats 1000000 in
theorem hash_calls (b : Nat) (T : ByteArray) (i : Nat) (w : World) (hc : w.cell? ⟨b, 0, none⟩ = some (.string T)) (hi : i + 3 ≤ T.size) (hT : T.size ≤ 1000000) :
    Calls Try.prog 18 #[.pointer (some ⟨b, 0, none⟩), .int .i64 (i : Nat)] w fun e w' => e = .returned (.int .u32 (hashN T.data.toList i : Nat)) ∧ ∃ q, w' = w.drewN q := by
  have h0 : (0 : Int) ≤ (i : Int) := by omega
  have h1 : (i : Int) + 3 ≤ (T.size : Int) := by omega
  have hz : (T.extract i (i + 3)).size = 3 := by simp; omega
  have e0 : (T.extract i (i + 3))[0] = T.data.toList.getD i 0 := ext_byte T i 3 0 hi (by decide) (by omega)
  have e1 := ext_byte T i 3 1 hi (by decide) (by omega)
  have e2 := ext_byte T i 3 2 hi (by decide) (by omega)
  have HH := Lib.hid (hashN_int T.data.toList i)
  have E0 := Lib.hid e0
  have E1 := Lib.hid e1
  have E2 := Lib.hid e2
  clear e0 e1 e2
  go_enter Try.func18, Try.ntmps18
  go_wp2_with fail
  go_quiet (fail)
  all_goals go_wp2_with fail
  go_ret
  refine ⟨ret1 (congrArg (Value.int .u32) ?_), _, rfl⟩
  rw [HH.out, ← E0.out, ← E1.out, ← E2.out]
  rfl
end Go.Proofs.Ytbjkoepldccaaaa
