
/- Contracts of the check's functions over the translated program: turns, the document's sum, the table. -/
import Derived.Test.YtmjahbdengnoeaaRows
import Derived.Test.YtmjahbdengnoeaaCrcNum
import Derived.Test.YtmjahbdengnoeaaMem
import Derived.WalkSpells
import Derived.WalkLawsBesides
import Derived.Lib.Hide
import Derived.Laws.BitsAllLaws
import Derived.RegionTactic
import Derived.BigRegion
import Derived.BigQuiet
import Derived.Deep.QuietTactic
namespace Go.Proofs.Ytmjahbdengnoeaa
open Go Go.RowKit
set_option maxRecDepth 100000

theorem ret1c {a b : Value} (h : a = b) : Ending.returned a = .returned b := by rw [h]
theorem val_u32 {a b : Int} (h : a = b) : Value.int .u32 a = .int .u32 b := by rw [h]
theorem data_lengthc (s : ByteArray) : s.data.toList.length = s.size := Array.length_toList

theorem and1_u32 (s : Nat) (h : s < 4294967296) : bits .and .u32 (s : Int) 1 = ((s % 2 : Nat) : Int) := by
  rw [show (1 : Int) = ((1 : Nat) : Int) from rfl, u32_and_nat s 1 h (by decide), Nat.and_one_is_mod]
theorem xor_P (s : Nat) (h : s < 4294967296) : bits .xor .u32 ((s : Int)) 3988292384 = ((s ^^^ 3988292384 : Nat) : Int) := by
  rw [show (3988292384 : Int) = ((3988292384 : Nat) : Int) from rfl, u32_xor_nat s _ h (by decide)]
theorem T1_odd (s : Nat) (h : s % 2 = 1) : T1 s = s / 2 ^^^ 3988292384 := by
  unfold T1; rw [if_pos h, Nat.shiftRight_eq_div_pow]
theorem T1_evn (s : Nat) (h : ¬ s % 2 = 1) : T1 s = s / 2 := by
  unfold T1; rw [if_neg h, Nat.xor_zero, Nat.shiftRight_eq_div_pow]

set_option maxHeartbeats 400000 in
theorem turn_calls (s : Nat) (w : World) (hs : s < 4294967296) : Calls Try.prog 61 #[.int .u32 s] w fun e w' => e = .returned (.int .u32 (T1 s)) ∧ w = w' := by
  by_cases h : s % 2 = 1
  · have hT := Lib.hid (T1_odd s h)
    have hb := and1_u32 s hs
    rw [h] at hb
    have hx := Lib.hid (xor_P (s / 2) (by omega))
    clear h
    go_enter Try.func61, Try.ntmps61
    go_wp2
    go_ret
    exact ⟨ret1c (val_u32 (by rw [hT.out, ← hx.out]; simp)), rfl⟩
  · have hT := Lib.hid (T1_evn s h)
    have hb := and1_u32 s hs
    rw [show s % 2 = 0 by omega] at hb
    clear h
    go_enter Try.func61, Try.ntmps61
    go_wp2
    go_ret
    exact ⟨ret1c (val_u32 (by rw [hT.out]; simp)), rfl⟩

set_option maxHeartbeats 400000 in
theorem refturn_calls (s : Nat) (w : World) (hs : s < 4294967296) : Calls Try.prog 37 #[.int .u32 s] w fun e w' => e = .returned (.int .u32 (Tn 8 s)) ∧ w = w' := by
  go_enter Try.func37, Try.ntmps37
  go_wp2
  go_loop [0, 3] (fun x i => ∃ k m : Nat, k ≤ 8 ∧ m = Tn k s ∧ x = .int .u32 m ∧ i = .int .i64 k) (fun _ i => 8 - (intOf i).toNat)
  case atStart => exact ⟨0, s, Nat.zero_le _, rfl, rfl, rfl⟩
  case round =>
    obtain ⟨k, m, hk, hm, rfl, rfl⟩ := hrel
    have hml : m < 4294967296 := by rw [hm]; exact Tn_lt k s hs
    have HM := Lib.hid hm
    clear hm
    by_cases hlt : k < 8
    · by_cases h : m % 2 = 1
      · have hT := Lib.hid (T1_odd m h)
        have hx := Lib.hid (xor_P (m / 2) (by omega))
        have h' : (m : Int) % 2 = 1 := by omega
        clear h
        go_wp2
        go_round
        case rel => exact ⟨k + 1, T1 m, by omega, by rw [Tn_succ, HM.out], by rw [hT.out, ← hx.out]; simp, by go_num⟩
        case measure => simp [intOf]; omega
      · have hT := Lib.hid (T1_evn m h)
        have h' : (m : Int) % 2 = 0 := by omega
        clear h
        go_wp2
        go_round
        case rel => exact ⟨k + 1, T1 m, by omega, by rw [Tn_succ, HM.out], by rw [hT.out]; simp, by go_num⟩
        case measure => simp [intOf]; omega
    · obtain rfl : k = 8 := by omega
      go_wp2
      go_ret
      exact ⟨ret1c (val_u32 (by rw [HM.out])), rfl⟩

theorem xor_byte (st c : Nat) (h : st < 4294967296) (hc : c < 256) : bits .xor .u32 (st : Int) (c : Int) = ((st ^^^ c : Nat) : Int) := u32_xor_nat st c h (by omega)

set_option maxHeartbeats 400000 in
theorem refmore_calls (sum : Nat) (s : ByteArray) (w : World) (hs : sum < 4294967296) (hz : s.size ≤ 9223372036854775807) :
    Calls Try.prog 26 #[.int .u32 sum, .string s] w fun e w' => e = .returned (.int .u32 (moreN sum s.data.toList)) ∧ w = w' := by
  have hf0 := flip_sub sum hs
  have hfl := flip_lt sum hs
  have HF := Lib.hid hf0
  have HSZ := Lib.hid (data_lengthc s)
  clear hf0
  go_enter Try.func26, Try.ntmps26
  go_wp2
  go_loop [0, 5] (fun x i => ∃ k m : Nat, k ≤ s.size ∧ m = crcSt (s.data.toList.take k) (flip sum) ∧ x = .int .u32 m ∧ i = .int .i64 k) (fun _ i => s.size - (intOf i).toNat)
  case atStart => exact ⟨0, flip sum, Nat.zero_le _, rfl, by rw [HF.out]; congr 1; omega, rfl⟩
  case round =>
    obtain ⟨k, m, hk, hm, rfl, rfl⟩ := hrel
    have hml : m < 4294967296 := by rw [hm]; exact crcSt_lt _ _ hfl
    have HM := Lib.hid hm
    clear hm
    by_cases hlt : k < s.size
    · have hky : k < s.data.toList.length := by rw [HSZ.out]; exact hlt
      have hc := s[k].toNat_lt
      have hx := xor_byte m s[k].toNat hml hc
      have hxl : m ^^^ s[k].toNat < 4294967296 := Nat.xor_lt_two_pow (n := 32) hml (by omega)
      have HT := Lib.hid (show crcSt (s.data.toList.take (k + 1)) (flip sum) = Tn 8 (crcSt (s.data.toList.take k) (flip sum) ^^^ s[k].toNat) by
        rw [List.take_succ_eq_append_getElem hky, crcSt_append]; rfl)
      go_wp2_with fail
      refine (refturn_calls (m ^^^ s[k].toNat) _ hxl).mono ?_
      rintro e w' ⟨rfl, rfl⟩
      go_wp2_with fail
      go_round
      case rel => exact ⟨k + 1, _, by omega, by rw [HT.out, ← HM.out], rfl, by go_num⟩
      case measure => simp [intOf]; omega
    · obtain rfl : k = s.size := by omega
      have hF := Lib.hid (flip_sub m hml)
      go_wp2
      go_ret
      exact ⟨ret1c (val_u32 (by unfold moreN; rw [← HSZ.out, List.take_length] at HM; rw [← HM.out, hF.out]; omega)), rfl⟩
end Go.Proofs.Ytmjahbdengnoeaa
