
/- Contracts of package bits' Put and Get, and of the document's own answers of layer 1, over the translated program. -/
import Derived.Test.YtleenjeiladjcaaDoorBitsP
namespace Go.Proofs.YtleenjeiladjcaaDoor
open Go Go.RowKit
set_option maxRecDepth 100000

def intVs (l : List Nat) : List Value := l.map fun b => Value.int .i64 (b : Nat)
theorem intVs_length (l : List Nat) : (intVs l).length = l.length := by simp [intVs]
theorem intVs_append (a b : List Nat) : intVs (a ++ b) = intVs a ++ intVs b := by simp [intVs]

theorem ret1 {a b : Value} (h : a = b) : Ending.returned a = .returned b := by rw [h]
theorem str_eq {a b : ByteArray} (h : a.data.toList = b.data.toList) : Value.string a = .string b := by
  congr 1
  cases a; cases b
  congr 1
  exact Array.ext' h

theorem data_length (s : ByteArray) : s.data.toList.length = s.size := Array.length_toList
theorem get_or (s : ByteArray) (k : Nat) (hk : k < s.size) (hs : s.size ≤ 8) :
    bits .or .u64 ((getN (s.data.toList.take k) : Nat) : Int) (IntKind.u64.wrap ((s[k].toNat : Int) * 2 ^ (8 * k))) = ((getN (s.data.toList.take (k + 1)) : Nat) : Int) := by
  have hk' : k < s.data.toList.length := by rw [data_length]; exact hk
  have hx := getN_take_lt s.data.toList k k (Nat.le_refl _)
  have h7 : 2 ^ (8 * k) ≤ 2 ^ 56 := Nat.pow_le_pow_right (by decide) (by omega)
  have hc := s[k].toNat_lt
  have h2 : s[k].toNat * 2 ^ (8 * k) ≤ 255 * 2 ^ 56 := Nat.mul_le_mul (by omega) h7
  have e2 : ((2 : Int) ^ (8 * k)) = ((2 ^ (8 * k) : Nat) : Int) := by simp
  rw [e2, show (s[k].toNat : Int) * ((2 ^ (8 * k) : Nat) : Int) = ((s[k].toNat * 2 ^ (8 * k) : Nat) : Int) by simp, wrap_u64_in _ (by omega), u64_or_nat _ _ (by omega) (by omega), ← getN_take_succ _ k hk']
  rfl

theorem refget_step (s : ByteArray) (k : Nat) (h0 : 0 < k) (hk : k ≤ s.size) (hs : s.size ≤ 8) :
    IntKind.u64.wrap (IntKind.u64.wrap (256 * ((getN (s.data.toList.drop k) : Nat) : Int)) + IntKind.u64.wrap ((s[k - 1]'(by omega)).toNat : Int)) = ((getN (s.data.toList.drop (k - 1)) : Nat) : Int) := by
  have hl := data_length s
  have h1 := getN_lt (s.data.toList.drop k)
  rw [List.length_drop, pow_256] at h1
  have h2 : 2 ^ (8 * (s.data.toList.length - k)) ≤ 2 ^ 56 := Nat.pow_le_pow_right (by decide) (by omega)
  have hc := (s[k - 1]'(by omega)).toNat_lt
  rw [show (256 : Int) * ((getN (s.data.toList.drop k) : Nat) : Int) = ((256 * getN (s.data.toList.drop k) : Nat) : Int) by simp, wrap_u64_in _ (by omega), wrap_u64_in _ (by omega),
    show ((256 * getN (s.data.toList.drop k) : Nat) : Int) + ((s[k - 1]'(by omega)).toNat : Int) = ((256 * getN (s.data.toList.drop k) + (s[k - 1]'(by omega)).toNat : Nat) : Int) by simp, wrap_u64_in _ (by omega)]
  have e : s.data.toList.drop (k - 1) = s[k - 1]'(by omega) :: s.data.toList.drop k := by
    have := List.drop_eq_getElem_cons (l := s.data.toList) (i := k - 1) (by omega)
    rw [show k - 1 + 1 = k by omega] at this
    exact this
  rw [e]
  simp only [getN]
  congr 1
  omega

set_option maxHeartbeats 400000 in
theorem refget_small (s : ByteArray) (w : World) (hs : s.size ≤ 8) : Calls Tryd.prog 53 #[.string s] w fun e w' => e = .returned (.int .u64 (getN s.data.toList)) ∧ w = w' := by
  have HSZ := Lib.hid (data_length s)
  go_enter Tryd.func53, Tryd.ntmps53
  go_wp2
  go_loop [3, 4] (fun t i => ∃ k : Nat, k ≤ s.size ∧ i = .int .i64 k ∧ t = .int .u64 (getN (s.data.toList.drop k))) (fun _ i => (intOf i).toNat)
  case atStart => exact ⟨s.size, Nat.le_refl _, rfl, by rw [← HSZ.out, List.drop_length]; rfl⟩
  case round =>
    obtain ⟨k, hk, rfl, rfl⟩ := hrel
    by_cases hlt : 0 < k
    · have hx := Lib.hid (refget_step s k hlt hk hs)
      go_wp2
      go_round
      case rel => exact ⟨k - 1, by omega, by go_num, by rw [hx.out]⟩
      case measure => simp [intOf]; omega
    · obtain rfl : k = 0 := by omega
      go_wp2
      go_ret
      exact ⟨rfl, rfl⟩

theorem refget_big (s : ByteArray) (w : World) (hs : 8 < s.size) (hm : s.size ≤ 9223372036854775807) : Calls Tryd.prog 53 #[.string s] w fun e w' => e = .returned (.int .u64 0) ∧ w = w' := by
  go_enter Tryd.func53, Tryd.ntmps53
  go_wp2
  go_loop [3, 4] (fun t i => t = .int .u64 0 ∧ i = .int .i64 s.size) (fun _ i => 0)
  case atStart => exact ⟨rfl, rfl⟩
  case round =>
    obtain ⟨rfl, rfl⟩ := hrel
    go_wp2
    go_ret
    exact ⟨rfl, rfl⟩

theorem run_one_byte (m : Nat) (W : World) :
    (convert 39 9 (.slice (some ⟨W.heap.size, 0, none⟩) 1 1)).run Tryd.prog (W.alloc (.cells #[.int .u8 ((m : Int) % 256)] 5)) = .ok (.string ⟨#[UInt8.ofNat (m % 256)]⟩) (W.alloc (.cells #[.int .u8 ((m : Int) % 256)] 5)) := by
  have h : Row (W.alloc (.cells #[.int .u8 ((m : Int) % 256)] 5)) 5 (.slice (some ⟨W.heap.size, 0, none⟩) 1 1) (byteVs [UInt8.ofNat (m % 256)]) :=
    .inr ⟨W.heap.size, 0, 1, _, rfl, heap_alloc_new W _, by simp [byteVs], by decide, by simp, by simp [byteVs]⟩
  have := run_bytes_row (P := Tryd.prog) _ 39 5 9 Tryd.underlying39 Tryd.underlying5 Tryd.underlying9 h
  simpa using this

theorem shr_byte (n k : Nat) : IntKind.u8.wrap ((n : Int) / 2 ^ (8 * k)) = ((UInt8.ofNat (n / 256 ^ k % 256)).toNat : Int) := by
  rw [show (n : Int) / 2 ^ (8 * k) = ((n / 256 ^ k : Nat) : Int) by rw [pow_256]; simp, u8_wrap]

theorem put_none (n : Nat) (size : Int) (w : World) (h : size < 1 ∨ 8 < size) : Calls Tryd.prog 6 #[.int .u64 n, .int .i64 size] w fun e w' => e = .returned (.string ⟨#[]⟩) ∧ w = w' := by
  by_cases h1 : size < 1
  · clear h
    go_enter Tryd.func6, Tryd.ntmps6
    go_wp2
    go_ret
    exact ⟨rfl, rfl⟩
  · have h2 : 8 < size := by omega
    clear h
    go_enter Tryd.func6, Tryd.ntmps6
    go_wp2
    go_ret
    exact ⟨rfl, rfl⟩

set_option maxHeartbeats 400000 in
theorem put_small (n size : Nat) (w : World) (h1 : 1 ≤ size) (hs : size ≤ 8) : Calls Tryd.prog 6 #[.int .u64 n, .int .i64 size] w fun e w' => e = .returned (.string ⟨(leB size n).toArray⟩) ∧ Touch (fun _ => False) w w' := by
  obtain ⟨i0, hi, hz0, hz1, hz2⟩ := info_parts Tryd.info5
  obtain ⟨w1, hmk, hown, hgrow⟩ := run_make_full (P := Tryd.prog) w w.heap.size 39 5 i0 _ 1 Tryd.underlying39 hi hz0 hz1 .i64 .i64 size (by rw [hz2]; omega) (by unfold maxLen; omega) (Nat.le_refl _)
  have hrow := Row.of_own hown
  have hlen0 : (madeCells (Value.int .u8 0).cells (size * 1)).toList.length = size := by have := hown.1; omega
  have hT := (Touch.refl (fun _ => False) w).grown hgrow (fun k h => by cases h)
  clear hown hgrow
  generalize (madeCells (Value.int .u8 0).cells (size * 1)).toList = zs at hrow hlen0
  generalize hG : w.heap.size = G at hrow hmk
  have HG := Lib.hid hG
  clear hG
  go_enter Tryd.func6, Tryd.ntmps6
  go_wp2
  go_loopw [16] (fun i wr => ∃ k : Nat, k ≤ size ∧ i = .int .i64 k ∧ Row wr 5 (.slice (some ⟨G, 0, none⟩) size size) (byteVs (leB k n) ++ zs.drop k) ∧ Touch (fun _ => False) w wr) (fun i _ => size - (intOf i).toNat)
  case atStart => exact ⟨0, Nat.zero_le _, rfl, by simpa [leB, byteVs] using hrow, hT⟩
  case round =>
    obtain ⟨k, hk, rfl, hr, ht⟩ := hrel
    by_cases hlt : k < size
    · have hv := Lib.hid (shr_byte n k)
      have hset := hr.set hlt (.int .u8 (IntKind.u8.wrap ((n : Int) / 2 ^ (8 * k))))
      have hcell := hr.cells.2 k (zs.getD k undef) (by
        rw [List.getElem?_append_right (by rw [byteVs_length, leB_length]; exact Nat.le_refl _), byteVs_length, leB_length, List.getElem?_drop]
        simp [List.getD, hlen0, hlt])
      have hfree := hr.free (k := k)
      rw [Nat.zero_add] at hcell hfree hset
      have HR := Lib.hid (⟨hr, hset⟩ : _ ∧ _)
      clear hr hset hrow
      go_wp2
      go_roundw
      case rel =>
        refine ⟨k + 1, by omega, by go_num, ?_, ht.setCell (Or.inr (by rw [HG.out]; exact Nat.le_refl _)) _⟩
        have h := HR.out.2
        have e : (byteVs (leB k n) ++ zs.drop k).set k (Value.int .u8 (IntKind.u8.wrap ((n : Int) / 2 ^ (8 * k)))) = byteVs (leB (k + 1) n) ++ zs.drop (k + 1) := by
          rw [List.set_append_right _ _ (by rw [byteVs_length, leB_length]; exact Nat.le_refl _), byteVs_length, leB_length, Nat.sub_self, List.drop_eq_getElem_cons (by omega), List.set_cons_zero, leB_snoc, hv.out, byteVs_append]
          simp [byteVs]
        rw [e] at h
        exact h
      case measure => simp [intOf]; omega
    · obtain rfl : k = size := by omega
      have hr' : Row wr 5 (.slice (some ⟨G, 0, none⟩) k k) (byteVs (leB k n)) := by
        rw [List.drop_eq_nil_of_le (by omega), List.append_nil] at hr; exact hr
      have hconv := run_bytes_row (P := Tryd.prog) wr 39 5 9 Tryd.underlying39 Tryd.underlying5 Tryd.underlying9 hr'
      clear hr hr' hrow
      go_wp2
      go_ret
      exact ⟨rfl, ht⟩
end Go.Proofs.YtleenjeiladjcaaDoor
