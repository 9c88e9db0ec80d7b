
/- Contracts of package bits' Put and Get, and of the document's own answers of layer 1, over the translated program. -/
import Derived.Test.YtmhigecchligcaaDoorBitsP
namespace Go.Proofs.YtmhigecchligcaaDoor
open Go Go.RowKit
set_option maxRecDepth 100000

def intVs (l : List Nat) : List Value := l.map fun b => Value.int .i64 (b : Nat)
theorem intVs_length (l : List Nat) : (intVs l).length = l.length := by simp [intVs]
theorem intVs_append (a b : List Nat) : intVs (a ++ b) = intVs a ++ intVs b := by simp [intVs]

theorem ret1 {a b : Value} (h : a = b) : Ending.returned a = .returned b := by rw [h]
theorem str_eq {a b : ByteArray} (h : a.data.toList = b.data.toList) : Value.string a = .string b := by
  congr 1
  cases a; cases b
  congr 1
  exact Array.ext' h

theorem data_length (s : ByteArray) : s.data.toList.length = s.size := Array.length_toList
theorem get_or (s : ByteArray) (k : Nat) (hk : k < s.size) (hs : s.size ≤ 8) :
    bits .or .u64 ((getN (s.data.toList.take k) : Nat) : Int) (IntKind.u64.wrap ((s[k].toNat : Int) * 2 ^ (8 * k))) = ((getN (s.data.toList.take (k + 1)) : Nat) : Int) := by
  have hk' : k < s.data.toList.length := by rw [data_length]; exact hk
  have hx := getN_take_lt s.data.toList k k (Nat.le_refl _)
  have h7 : 2 ^ (8 * k) ≤ 2 ^ 56 := Nat.pow_le_pow_right (by decide) (by omega)
  have hc := s[k].toNat_lt
  have h2 : s[k].toNat * 2 ^ (8 * k) ≤ 255 * 2 ^ 56 := Nat.mul_le_mul (by omega) h7
  have e2 : ((2 : Int) ^ (8 * k)) = ((2 ^ (8 * k) : Nat) : Int) := by simp
  rw [e2, show (s[k].toNat : Int) * ((2 ^ (8 * k) : Nat) : Int) = ((s[k].toNat * 2 ^ (8 * k) : Nat) : Int) by simp, wrap_u64_in _ (by omega), u64_or_nat _ _ (by omega) (by omega), ← getN_take_succ _ k hk']
  rfl

theorem refget_step (s : ByteArray) (k : Nat) (h0 : 0 < k) (hk : k ≤ s.size) (hs : s.size ≤ 8) :
    IntKind.u64.wrap (IntKind.u64.wrap (256 * ((getN (s.data.toList.drop k) : Nat) : Int)) + IntKind.u64.wrap ((s[k - 1]'(by omega)).toNat : Int)) = ((getN (s.data.toList.drop (k - 1)) : Nat) : Int) := by
  have hl := data_length s
  have h1 := getN_lt (s.data.toList.drop k)
  rw [List.length_drop, pow_256] at h1
  have h2 : 2 ^ (8 * (s.data.toList.length - k)) ≤ 2 ^ 56 := Nat.pow_le_pow_right (by decide) (by omega)
  have hc := (s[k - 1]'(by omega)).toNat_lt
  rw [show (256 : Int) * ((getN (s.data.toList.drop k) : Nat) : Int) = ((256 * getN (s.data.toList.drop k) : Nat) : Int) by simp, wrap_u64_in _ (by omega), wrap_u64_in _ (by omega),
    show ((256 * getN (s.data.toList.drop k) : Nat) : Int) + ((s[k - 1]'(by omega)).toNat : Int) = ((256 * getN (s.data.toList.drop k) + (s[k - 1]'(by omega)).toNat : Nat) : Int) by simp, wrap_u64_in _ (by omega)]
  have e : s.data.toList.drop (k - 1) = s[k - 1]'(by omega) :: s.data.toList.drop k := by
    have := List.drop_eq_getElem_cons (l := s.data.toList) (i := k - 1) (by omega)
    rw [show k - 1 + 1 = k by omega] at this
    exact this
  rw [e]
  simp only [getN]
  congr 1
  omega

theorem run_one_byte (m : Nat) (W : World) :
    (convert 31 9 (.slice (some ⟨W.heap.size, 0, none⟩) 1 1)).run Tryd.prog (W.alloc (.cells #[.int .u8 ((m : Int) % 256)] 5)) = .ok (.string ⟨#[UInt8.ofNat (m % 256)]⟩) (W.alloc (.cells #[.int .u8 ((m : Int) % 256)] 5)) := by
  have h : Row (W.alloc (.cells #[.int .u8 ((m : Int) % 256)] 5)) 5 (.slice (some ⟨W.heap.size, 0, none⟩) 1 1) (byteVs [UInt8.ofNat (m % 256)]) :=
    .inr ⟨W.heap.size, 0, 1, _, rfl, heap_alloc_new W _, by simp [byteVs], by decide, by simp, by simp [byteVs]⟩
  have := run_bytes_row (P := Tryd.prog) _ 31 5 9 Tryd.underlying31 Tryd.underlying5 Tryd.underlying9 h
  simpa using this

theorem shr_byte (n k : Nat) : IntKind.u8.wrap ((n : Int) / 2 ^ (8 * k)) = ((UInt8.ofNat (n / 256 ^ k % 256)).toNat : Int) := by
  rw [show (n : Int) / 2 ^ (8 * k) = ((n / 256 ^ k : Nat) : Int) by rw [pow_256]; simp, u8_wrap]

end Go.Proofs.YtmhigecchligcaaDoor
