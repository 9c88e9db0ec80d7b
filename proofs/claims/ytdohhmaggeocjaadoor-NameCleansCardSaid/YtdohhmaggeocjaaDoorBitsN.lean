/- Contracts of package bits over the translated program: Writer and Reader by the list of their bits, Put and Get. -/
import Derived.Test.YtdohhmaggeocjaaDoorRows
import Derived.Test.YtdohhmaggeocjaaDoorNum
import Derived.Test.YtdohhmaggeocjaaDoorMem
import Derived.WalkSpells
import Derived.WalkLawsBesides
import Derived.Lib.Hide
import Derived.Laws.BitsAllLaws
import Derived.RegionTactic
import Derived.BigRegion
import Derived.BigQuiet
import Derived.Deep.QuietTactic
import Derived.Deep.RegionHeld3
import Derived.Deep.RegionLaw
namespace Go.Proofs.YtdohhmaggeocjaaDoor
open Go Go.RowKit
set_option maxRecDepth 100000

/-- A Writer's three cells and its whole bytes. -/
structure WrRaw (w : World) (b o : Nat) (xs : List UInt8) (p s : Nat) (v : Value) : Prop where
  cells : Cell3 w b o v (.int .u64 p) (.int .i64 s)
  row : Row w 5 v (byteVs xs)
  apart : v.ownBlock ≠ some b

/-- A Writer by the list of its bits. -/
def WrAt (w : World) (b o : Nat) (l : List Nat) (row : Option Nat) : Prop :=
  ∃ xs p s v, WrRaw w b o xs p s v ∧ v.ownBlock = row ∧ s < 8 ∧ p < 2 ^ s ∧ l = bitsL xs ++ bitsN s p

theorem Tryd.info5 : (Tryd.prog.info? 5).map (fun i => (i.zero, i.size, i.bytes)) = some (some (.int .u8 0), 1, 1) := by kernel_rfl

theorem wrap_u64_in (x : Nat) (h : x < 18446744073709551616) : IntKind.u64.wrap (x : Int) = (x : Int) := by
  rw [IntKind.wrap_u64]; omega

theorem acc_val (p s n vv : Nat) (hp : p < 2 ^ s) (hs : s < 8) (h2 : n ≤ 32) (hv : vv < 18446744073709551616) :
    bits .or .u64 (p : Int) (IntKind.u64.wrap (bits .and .u64 (vv : Int) (IntKind.u64.wrap (IntKind.u64.wrap (2 ^ n) - 1)) * 2 ^ s)) = ((p + vv % 2 ^ n * 2 ^ s : Nat) : Int) := by
  have hn1 : 2 ^ n ≤ 2 ^ 32 := Nat.pow_le_pow_right (by decide) h2
  have hn0 := Nat.two_pow_pos n
  have hs1 : 2 ^ s ≤ 2 ^ 7 := Nat.pow_le_pow_right (by decide) (by omega)
  have e1 : ((2 : Int) ^ n) = ((2 ^ n : Nat) : Int) := by simp
  have e2 : ((2 : Int) ^ s) = ((2 ^ s : Nat) : Int) := by simp
  rw [e1, e2, wrap_u64_in _ (by omega), show ((2 ^ n : Nat) : Int) - 1 = ((2 ^ n - 1 : Nat) : Int) by omega, wrap_u64_in _ (by omega), u64_and_nat _ _ hv (by omega), Nat.and_two_pow_sub_one_eq_mod]
  have h3 := Nat.mod_lt vv hn0
  have h4 : vv % 2 ^ n * 2 ^ s ≤ (2 ^ 32) * 2 ^ 7 := Nat.mul_le_mul (by omega) hs1
  rw [show ((vv % 2 ^ n : Nat) : Int) * ((2 ^ s : Nat) : Int) = ((vv % 2 ^ n * 2 ^ s : Nat) : Int) by simp, wrap_u64_in _ (by omega), u64_or_nat _ _ (by omega) (by omega), or_join s p _ hp]

theorem u8_wrap (a : Nat) : IntKind.u8.wrap (a : Int) = ((UInt8.ofNat (a % 256)).toNat : Int) := by
  rw [IntKind.wrap_u8']
  simp

theorem acc_le (p s n vv : Nat) (hp : p < 2 ^ s) (hs : s < 8) (h2 : n ≤ 32) : p + vv % 2 ^ n * 2 ^ s < 549755813888 := by
  have hn1 : 2 ^ n ≤ 2 ^ 32 := Nat.pow_le_pow_right (by decide) h2
  have hn0 := Nat.two_pow_pos n
  have hs1 : 2 ^ s ≤ 2 ^ 7 := Nat.pow_le_pow_right (by decide) (by omega)
  have h3 := Nat.mod_lt vv hn0
  have h5 : (vv % 2 ^ n + 1) * 2 ^ s ≤ 2 ^ n * 2 ^ s := Nat.mul_le_mul_right _ h3
  have h4 : 2 ^ n * 2 ^ s ≤ (2 ^ 32) * 2 ^ 7 := Nat.mul_le_mul (by omega) hs1
  rw [Nat.add_mul, Nat.one_mul] at h5
  omega

theorem byteVs_snoc (xs : List UInt8) (k a : Nat) : byteVs (xs ++ leB k a) ++ [Value.int .u8 (IntKind.u8.wrap ((a / 256 ^ k : Nat) : Int))] = byteVs (xs ++ leB (k + 1) a) := by
  rw [leB_snoc, ← List.append_assoc, u8_wrap]
  simp only [byteVs, List.map_append, List.map_cons, List.map_nil]

end Go.Proofs.YtdohhmaggeocjaaDoor
/- Contracts of package bits' Writer over the translated program, by the list of its bits. -/
namespace Go.Proofs.YtdohhmaggeocjaaDoor
open Go Go.RowKit
set_option maxRecDepth 100000

/-- Where a row lies now: where it lay, or in a new block. -/
def Sep (n : Nat) (row row' : Option Nat) : Prop := row' = row ∨ ∃ g, row' = some g ∧ n ≤ g

theorem Sep.refl (n : Nat) (a : Option Nat) : Sep n a a := .inl rfl
theorem Sep.trans {n m : Nat} {a b c : Option Nat} (h : Sep n a b) (k : Sep m b c) (hm : n ≤ m) : Sep n a c := by
  rcases k with rfl | ⟨g, rfl, hg⟩
  · exact h
  · exact .inr ⟨g, rfl, by omega⟩
theorem Sep.ne {n h : Nat} {a b : Option Nat} (hs : Sep n a b) (ha : a ≠ some h) (hh : h < n) : b ≠ some h := by
  rcases hs with rfl | ⟨g, rfl, hg⟩
  · exact ha
  · intro e; injection e with e; omega
/-- What wrote in the block and in its row alone. -/
theorem Sep.touch {a b c : World} {k0 : Nat} {row row1 : Option Nat} (ht : Touch (fun k => k = k0 ∨ row = some k) a b) (hs : Sep a.heap.size row row1) (ht' : Touch (fun k => k = k0 ∨ row1 = some k) b c) : Touch (fun k => k = k0 ∨ row = some k) a c :=
  ht.trans' ht' (fun i hi => by
    rcases hi with rfl | hi
    · exact .inl (.inl rfl)
    · rcases hs with rfl | ⟨g, rfl, hg⟩
      · exact .inl (.inr hi)
      · injection hi with hi; right; omega)

end Go.Proofs.YtdohhmaggeocjaaDoor
/- Contracts of package bits' Reader over the translated program, by the list of its bits. -/
namespace Go.Proofs.YtdohhmaggeocjaaDoor
open Go Go.RowKit
set_option maxRecDepth 100000

/-- A Reader by the list of its bits. -/
def RdAt (w : World) (b o : Nat) (l : List Nat) (row : Option Nat) : Prop :=
  ∃ (ys : List UInt8) (g : Nat) (v : Value), Cell2 w b o v (.int .i64 g) ∧ Row w 5 v (byteVs ys) ∧ v.ownBlock ≠ some b ∧ v.ownBlock = row ∧ g < 8 ∧ g ≤ 8 * ys.length ∧ l = (bitsL ys).drop g

theorem rd_length {ys : List UInt8} {g : Nat} : ((bitsL ys).drop g).length = 8 * ys.length - g := by rw [List.length_drop, bitsL_length]

theorem WrAt.kept {S : Nat → Prop} {w w' : World} {b o : Nat} {l : List Nat} {row : Option Nat} (h : WrAt w b o l row) (ht : Touch S w w') (hb : ¬ S b) (hr : ∀ g, row = some g → ¬ S g) : WrAt w' b o l row := by
  obtain ⟨xs, p, s, v, ⟨hC, hrow, hap⟩, hv, r⟩ := h
  exact ⟨xs, p, s, v, ⟨hC.kept ht hb, hrow.kept ht (fun g hg => hr g (by rw [← hv, hg])), hap⟩, hv, r⟩
theorem RdAt.kept {S : Nat → Prop} {w w' : World} {b o : Nat} {l : List Nat} {row : Option Nat} (h : RdAt w b o l row) (ht : Touch S w w') (hb : ¬ S b) (hr : ∀ g, row = some g → ¬ S g) : RdAt w' b o l row := by
  obtain ⟨ys, g, v, hC, hrow, hap, hv, r⟩ := h
  exact ⟨ys, g, v, hC.kept ht hb, hrow.kept ht (fun g hg => hr g (by rw [← hv, hg])), hap, hv, r⟩

end Go.Proofs.YtdohhmaggeocjaaDoor
/- Contracts of package bits' Reader over the translated program: Peek, Read, Take. -/
namespace Go.Proofs.YtdohhmaggeocjaaDoor
open Go Go.RowKit
set_option maxRecDepth 100000

theorem peek_or (x : Nat) (c k : Nat) (hx : x < 2 ^ (8 * k)) (hc : c < 256) (hk : k ≤ 4) :
    bits .or .u64 (x : Int) (IntKind.u64.wrap ((c : Int) * 2 ^ (8 * k))) = ((x ||| c * 2 ^ (8 * k) : Nat) : Int) := by
  have h1 : 2 ^ (8 * k) ≤ 2 ^ 32 := Nat.pow_le_pow_right (by decide) (by omega)
  have h2 : c * 2 ^ (8 * k) ≤ 255 * 2 ^ 32 := Nat.mul_le_mul (by omega) h1
  have e2 : ((2 : Int) ^ (8 * k)) = ((2 ^ (8 * k) : Nat) : Int) := by simp
  rw [e2, show (c : Int) * ((2 ^ (8 * k) : Nat) : Int) = ((c * 2 ^ (8 * k) : Nat) : Int) by simp, wrap_u64_in _ (by omega), u64_or_nat _ _ (by omega) (by omega)]

theorem peek_and (x n : Nat) (hx : x < 18446744073709551616) (hn : n ≤ 32) :
    bits .and .u64 (x : Int) (IntKind.u64.wrap (IntKind.u64.wrap (2 ^ n) - 1)) = ((x % 2 ^ n : Nat) : Int) := by
  have hn1 : 2 ^ n ≤ 2 ^ 32 := Nat.pow_le_pow_right (by decide) hn
  have hn0 := Nat.two_pow_pos n
  have e1 : ((2 : Int) ^ n) = ((2 ^ n : Nat) : Int) := by simp
  rw [e1, wrap_u64_in _ (by omega), show ((2 ^ n : Nat) : Int) - 1 = ((2 ^ n - 1 : Nat) : Int) by omega, wrap_u64_in _ (by omega), u64_and_nat _ _ hx (by omega), Nat.and_two_pow_sub_one_eq_mod]

theorem peek_last (x g n : Nat) (hx : x < 18446744073709551616) (hn : n ≤ 32) :
    bits .and .u64 ((x : Int) / 2 ^ g) (IntKind.u64.wrap (IntKind.u64.wrap (2 ^ n) - 1)) = ((x / 2 ^ g % 2 ^ n : Nat) : Int) := by
  have e : (x : Int) / 2 ^ g = ((x / 2 ^ g : Nat) : Int) := by simp
  rw [e]
  exact peek_and _ n (Nat.lt_of_le_of_lt (Nat.div_le_self _ _) hx) hn

theorem ret2 {a b c d : Value} (h : a = c) (k : b = d) : Ending.returned (.tuple #[a, b]) = .returned (.tuple #[c, d]) := by rw [h, k]
theorem val_u64 {a b : Int} (h : a = b) : Value.int .u64 a = .int .u64 b := by rw [h]

end Go.Proofs.YtdohhmaggeocjaaDoor
/- Contracts of package bits' Put and Get, and of the document's own answers of layer 1, over the translated program. -/
namespace Go.Proofs.YtdohhmaggeocjaaDoor
open Go Go.RowKit
set_option maxRecDepth 100000

def intVs (l : List Nat) : List Value := l.map fun b => Value.int .i64 (b : Nat)
theorem intVs_length (l : List Nat) : (intVs l).length = l.length := by simp [intVs]
theorem intVs_append (a b : List Nat) : intVs (a ++ b) = intVs a ++ intVs b := by simp [intVs]

theorem ret1 {a b : Value} (h : a = b) : Ending.returned a = .returned b := by rw [h]
theorem str_eq {a b : ByteArray} (h : a.data.toList = b.data.toList) : Value.string a = .string b := by
  congr 1
  cases a; cases b
  congr 1
  exact Array.ext' h

theorem data_length (s : ByteArray) : s.data.toList.length = s.size := Array.length_toList
theorem get_or (s : ByteArray) (k : Nat) (hk : k < s.size) (hs : s.size ≤ 8) :
    bits .or .u64 ((getN (s.data.toList.take k) : Nat) : Int) (IntKind.u64.wrap ((s[k].toNat : Int) * 2 ^ (8 * k))) = ((getN (s.data.toList.take (k + 1)) : Nat) : Int) := by
  have hk' : k < s.data.toList.length := by rw [data_length]; exact hk
  have hx := getN_take_lt s.data.toList k k (Nat.le_refl _)
  have h7 : 2 ^ (8 * k) ≤ 2 ^ 56 := Nat.pow_le_pow_right (by decide) (by omega)
  have hc := s[k].toNat_lt
  have h2 : s[k].toNat * 2 ^ (8 * k) ≤ 255 * 2 ^ 56 := Nat.mul_le_mul (by omega) h7
  have e2 : ((2 : Int) ^ (8 * k)) = ((2 ^ (8 * k) : Nat) : Int) := by simp
  rw [e2, show (s[k].toNat : Int) * ((2 ^ (8 * k) : Nat) : Int) = ((s[k].toNat * 2 ^ (8 * k) : Nat) : Int) by simp, wrap_u64_in _ (by omega), u64_or_nat _ _ (by omega) (by omega), ← getN_take_succ _ k hk']
  rfl

theorem refget_step (s : ByteArray) (k : Nat) (h0 : 0 < k) (hk : k ≤ s.size) (hs : s.size ≤ 8) :
    IntKind.u64.wrap (IntKind.u64.wrap (256 * ((getN (s.data.toList.drop k) : Nat) : Int)) + IntKind.u64.wrap ((s[k - 1]'(by omega)).toNat : Int)) = ((getN (s.data.toList.drop (k - 1)) : Nat) : Int) := by
  have hl := data_length s
  have h1 := getN_lt (s.data.toList.drop k)
  rw [List.length_drop, pow_256] at h1
  have h2 : 2 ^ (8 * (s.data.toList.length - k)) ≤ 2 ^ 56 := Nat.pow_le_pow_right (by decide) (by omega)
  have hc := (s[k - 1]'(by omega)).toNat_lt
  rw [show (256 : Int) * ((getN (s.data.toList.drop k) : Nat) : Int) = ((256 * getN (s.data.toList.drop k) : Nat) : Int) by simp, wrap_u64_in _ (by omega), wrap_u64_in _ (by omega),
    show ((256 * getN (s.data.toList.drop k) : Nat) : Int) + ((s[k - 1]'(by omega)).toNat : Int) = ((256 * getN (s.data.toList.drop k) + (s[k - 1]'(by omega)).toNat : Nat) : Int) by simp, wrap_u64_in _ (by omega)]
  have e : s.data.toList.drop (k - 1) = s[k - 1]'(by omega) :: s.data.toList.drop k := by
    have := List.drop_eq_getElem_cons (l := s.data.toList) (i := k - 1) (by omega)
    rw [show k - 1 + 1 = k by omega] at this
    exact this
  rw [e]
  simp only [getN]
  congr 1
  omega

theorem get_big (s : ByteArray) (w : World) (hs : 8 < s.size) (hm : s.size ≤ 9223372036854775807) : Calls Tryd.prog 84 #[.string s] w fun e w' => e = .returned (.int .u64 0) ∧ w = w' := by
  go_enter Tryd.func84, Tryd.ntmps84
  go_wp2
  go_ret
  exact ⟨rfl, rfl⟩

set_option maxHeartbeats 400000 in
theorem get_small (s : ByteArray) (w : World) (hs : s.size ≤ 8) : Calls Tryd.prog 84 #[.string s] w fun e w' => e = .returned (.int .u64 (getN s.data.toList)) ∧ w = w' := by
  have HSZ := Lib.hid (data_length s)
  go_enter Tryd.func84, Tryd.ntmps84
  go_wp2
  go_loop [3, 10] (fun t i => ∃ k : Nat, k ≤ s.size ∧ i = .int .i64 k ∧ t = .int .u64 (getN (s.data.toList.take k))) (fun _ i => s.size - (intOf i).toNat)
  case atStart => exact ⟨0, Nat.zero_le _, rfl, rfl⟩
  case round =>
    obtain ⟨k, hk, rfl, rfl⟩ := hrel
    by_cases hlt : k < s.size
    · have hky : k < s.data.toList.length := by rw [HSZ.out]; exact hlt
      have hx := Lib.hid (get_or s k hlt hs)
      have hb1 := s[k].toNat_lt
      go_wp2
      go_round
      case rel => exact ⟨k + 1, by omega, by go_num, by rw [hx.out]⟩
      case measure => simp [intOf]; omega
    · obtain rfl : k = s.size := by omega
      go_wp2
      go_ret
      exact ⟨ret1 (val_u64 (by rw [← HSZ.out, List.take_length])), rfl⟩

set_option maxHeartbeats 400000 in
theorem refget_small (s : ByteArray) (w : World) (hs : s.size ≤ 8) : Calls Tryd.prog 64 #[.string s] w fun e w' => e = .returned (.int .u64 (getN s.data.toList)) ∧ w = w' := by
  have HSZ := Lib.hid (data_length s)
  go_enter Tryd.func64, Tryd.ntmps64
  go_wp2
  go_loop [3, 4] (fun t i => ∃ k : Nat, k ≤ s.size ∧ i = .int .i64 k ∧ t = .int .u64 (getN (s.data.toList.drop k))) (fun _ i => (intOf i).toNat)
  case atStart => exact ⟨s.size, Nat.le_refl _, rfl, by rw [← HSZ.out, List.drop_length]; rfl⟩
  case round =>
    obtain ⟨k, hk, rfl, rfl⟩ := hrel
    by_cases hlt : 0 < k
    · have hx := Lib.hid (refget_step s k hlt hk hs)
      go_wp2
      go_round
      case rel => exact ⟨k - 1, by omega, by go_num, by rw [hx.out]⟩
      case measure => simp [intOf]; omega
    · obtain rfl : k = 0 := by omega
      go_wp2
      go_ret
      exact ⟨rfl, rfl⟩

theorem refget_big (s : ByteArray) (w : World) (hs : 8 < s.size) (hm : s.size ≤ 9223372036854775807) : Calls Tryd.prog 64 #[.string s] w fun e w' => e = .returned (.int .u64 0) ∧ w = w' := by
  go_enter Tryd.func64, Tryd.ntmps64
  go_wp2
  go_loop [3, 4] (fun t i => t = .int .u64 0 ∧ i = .int .i64 s.size) (fun _ i => 0)
  case atStart => exact ⟨rfl, rfl⟩
  case round =>
    obtain ⟨rfl, rfl⟩ := hrel
    go_wp2
    go_ret
    exact ⟨rfl, rfl⟩

theorem run_one_byte (m : Nat) (W : World) :
    (convert 31 9 (.slice (some ⟨W.heap.size, 0, none⟩) 1 1)).run Tryd.prog (W.alloc (.cells #[.int .u8 ((m : Int) % 256)] 5)) = .ok (.string ⟨#[UInt8.ofNat (m % 256)]⟩) (W.alloc (.cells #[.int .u8 ((m : Int) % 256)] 5)) := by
  have h : Row (W.alloc (.cells #[.int .u8 ((m : Int) % 256)] 5)) 5 (.slice (some ⟨W.heap.size, 0, none⟩) 1 1) (byteVs [UInt8.ofNat (m % 256)]) :=
    .inr ⟨W.heap.size, 0, 1, _, rfl, heap_alloc_new W _, by simp [byteVs], by decide, by simp, by simp [byteVs]⟩
  have := run_bytes_row (P := Tryd.prog) _ 31 5 9 Tryd.underlying31 Tryd.underlying5 Tryd.underlying9 h
  simpa using this

set_option maxHeartbeats 400000 in
theorem refput_small (n size : Nat) (w : World) (hs : size ≤ 8) (hn : n < 18446744073709551616) : Calls Tryd.prog 52 #[.int .u64 n, .int .i64 size] w fun e w' => e = .returned (.string ⟨(leB size n).toArray⟩) ∧ Touch (fun _ => False) w w' := by
  go_enter Tryd.func52, Tryd.ntmps52
  go_wp2
  go_loopw [0, 5, 6] (fun x t i wr => ∃ (k m : Nat) (q : ByteArray), k ≤ size ∧ m = n / 256 ^ k ∧ q.data.toList = leB k n ∧ i = .int .i64 k ∧ t = .string q ∧ x = .int .u64 m ∧ Touch (fun _ => False) w wr) (fun _ _ i _ => size - (intOf i).toNat)
  case atStart => exact ⟨0, n, ⟨#[]⟩, Nat.zero_le _, by simp, rfl, rfl, rfl, rfl, Touch.refl _ _⟩
  case round =>
    obtain ⟨k, m, q, hk, hm, hq, rfl, rfl, rfl, ht⟩ := hrel
    have hqs : q.size ≤ 8 := by rw [← data_length, hq, leB_length]; omega
    have HQ := Lib.hid hq
    clear hq
    have hml : m < 18446744073709551616 := by rw [hm]; exact Nat.lt_of_le_of_lt (Nat.div_le_self _ _) hn
    have HM := Lib.hid hm
    clear hm
    by_cases hlt : k < size
    · have hconv := run_one_byte m wr
      have HS := Lib.hid (leB_snoc k n)
      go_wp2
      go_roundw
      case rel => exact ⟨k + 1, m / 256, _, by omega, by rw [HM.out, Nat.div_div_eq_div_mul, Nat.pow_succ], by rw [HS.out, ByteArray.data_append, Array.toList_append, HQ.out, HM.out], by go_num, rfl, by go_num, ht.alloc _⟩
      case measure => simp [intOf]; omega
    · obtain rfl : k = size := by omega
      go_wp2
      go_ret
      exact ⟨ret1 (str_eq HQ.out), ht⟩

theorem shr_byte (n k : Nat) : IntKind.u8.wrap ((n : Int) / 2 ^ (8 * k)) = ((UInt8.ofNat (n / 256 ^ k % 256)).toNat : Int) := by
  rw [show (n : Int) / 2 ^ (8 * k) = ((n / 256 ^ k : Nat) : Int) by rw [pow_256]; simp, u8_wrap]

theorem put_none (n : Nat) (size : Int) (w : World) (h : size < 1 ∨ 8 < size) : Calls Tryd.prog 50 #[.int .u64 n, .int .i64 size] w fun e w' => e = .returned (.string ⟨#[]⟩) ∧ w = w' := by
  by_cases h1 : size < 1
  · clear h
    go_enter Tryd.func50, Tryd.ntmps50
    go_wp2
    go_ret
    exact ⟨rfl, rfl⟩
  · have h2 : 8 < size := by omega
    clear h
    go_enter Tryd.func50, Tryd.ntmps50
    go_wp2
    go_ret
    exact ⟨rfl, rfl⟩

theorem refput_none (n : Nat) (size : Int) (w : World) (h : size < 1 ∨ 8 < size) : Calls Tryd.prog 52 #[.int .u64 n, .int .i64 size] w fun e w' => e = .returned (.string ⟨#[]⟩) ∧ w = w' := by
  by_cases h1 : size < 1
  · clear h
    go_enter Tryd.func52, Tryd.ntmps52
    go_wp2
    go_loop [0, 5, 6] (fun x t i => x = .int .u64 n ∧ t = .string ⟨#[]⟩ ∧ i = .int .i64 0) (fun _ _ _ => 0)
    case atStart => exact ⟨rfl, rfl, rfl⟩
    case round =>
      obtain ⟨rfl, rfl, rfl⟩ := hrel
      go_wp2
      go_ret
      exact ⟨rfl, rfl⟩
  · have h2 : 8 < size := by omega
    clear h
    go_enter Tryd.func52, Tryd.ntmps52
    go_wp2
    go_loop [0, 5, 6] (fun x t i => x = .int .u64 n ∧ t = .string ⟨#[]⟩ ∧ i = .int .i64 0) (fun _ _ _ => 0)
    case atStart => exact ⟨rfl, rfl, rfl⟩
    case round =>
      obtain ⟨rfl, rfl, rfl⟩ := hrel
      go_wp2
      go_ret
      exact ⟨rfl, rfl⟩

set_option maxHeartbeats 400000 in
theorem put_small (n size : Nat) (w : World) (h1 : 1 ≤ size) (hs : size ≤ 8) : Calls Tryd.prog 50 #[.int .u64 n, .int .i64 size] w fun e w' => e = .returned (.string ⟨(leB size n).toArray⟩) ∧ Touch (fun _ => False) w w' := by
  obtain ⟨i0, hi, hz0, hz1, hz2⟩ := info_parts Tryd.info5
  obtain ⟨w1, hmk, hown, hgrow⟩ := run_make_full (P := Tryd.prog) w w.heap.size 31 5 i0 _ 1 Tryd.underlying31 hi hz0 hz1 .i64 .i64 size (by rw [hz2]; omega) (by unfold maxLen; omega) (Nat.le_refl _)
  have hrow := Row.of_own hown
  have hlen0 : (madeCells (Value.int .u8 0).cells (size * 1)).toList.length = size := by have := hown.1; omega
  have hT := (Touch.refl (fun _ => False) w).grown hgrow (fun k h => by cases h)
  clear hown hgrow
  generalize (madeCells (Value.int .u8 0).cells (size * 1)).toList = zs at hrow hlen0
  generalize hG : w.heap.size = G at hrow hmk
  have HG := Lib.hid hG
  clear hG
  go_enter Tryd.func50, Tryd.ntmps50
  go_wp2
  go_loopw [16] (fun i wr => ∃ k : Nat, k ≤ size ∧ i = .int .i64 k ∧ Row wr 5 (.slice (some ⟨G, 0, none⟩) size size) (byteVs (leB k n) ++ zs.drop k) ∧ Touch (fun _ => False) w wr) (fun i _ => size - (intOf i).toNat)
  case atStart => exact ⟨0, Nat.zero_le _, rfl, by simpa [leB, byteVs] using hrow, hT⟩
  case round =>
    obtain ⟨k, hk, rfl, hr, ht⟩ := hrel
    by_cases hlt : k < size
    · have hv := Lib.hid (shr_byte n k)
      have hset := hr.set hlt (.int .u8 (IntKind.u8.wrap ((n : Int) / 2 ^ (8 * k))))
      have hcell := hr.cells.2 k (zs.getD k undef) (by
        rw [List.getElem?_append_right (by rw [byteVs_length, leB_length]; exact Nat.le_refl _), byteVs_length, leB_length, List.getElem?_drop]
        simp [List.getD, hlen0, hlt])
      have hfree := hr.free (k := k)
      rw [Nat.zero_add] at hcell hfree hset
      have HR := Lib.hid (⟨hr, hset⟩ : _ ∧ _)
      clear hr hset hrow
      go_wp2
      go_roundw
      case rel =>
        refine ⟨k + 1, by omega, by go_num, ?_, ht.setCell (Or.inr (by rw [HG.out]; exact Nat.le_refl _)) _⟩
        have h := HR.out.2
        have e : (byteVs (leB k n) ++ zs.drop k).set k (Value.int .u8 (IntKind.u8.wrap ((n : Int) / 2 ^ (8 * k)))) = byteVs (leB (k + 1) n) ++ zs.drop (k + 1) := by
          rw [List.set_append_right _ _ (by rw [byteVs_length, leB_length]; exact Nat.le_refl _), byteVs_length, leB_length, Nat.sub_self, List.drop_eq_getElem_cons (by omega), List.set_cons_zero, leB_snoc, hv.out, byteVs_append]
          simp [byteVs]
        rw [e] at h
        exact h
      case measure => simp [intOf]; omega
    · obtain rfl : k = size := by omega
      have hr' : Row wr 5 (.slice (some ⟨G, 0, none⟩) k k) (byteVs (leB k n)) := by
        rw [List.drop_eq_nil_of_le (by omega), List.append_nil] at hr; exact hr
      have hconv := run_bytes_row (P := Tryd.prog) wr 31 5 9 Tryd.underlying31 Tryd.underlying5 Tryd.underlying9 hr'
      clear hr hr' hrow
      go_wp2
      go_ret
      exact ⟨rfl, ht⟩
end Go.Proofs.YtdohhmaggeocjaaDoor
