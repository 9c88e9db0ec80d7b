
/- Layer 12's statements: what every one of them asks first; names of one letter, as long as may be. -/
import Derived.Test.YtmhigecchligcaaDoorNamD
import Derived.Lib.ValidAsc
import Derived.Lib.TrimUEq
namespace Go.Proofs.YtmhigecchligcaaDoor
open Go Go.RowKit
set_option maxRecDepth 100000

def plainB (l : List UInt8) : Bool := l.all fun c => decide (c.toNat < 128)

theorem take_snoc (s : ByteArray) (k : Nat) (h : k < s.size) : s.data.toList.take (k + 1) = s.data.toList.take k ++ [s[k]] := by
  rw [List.take_succ_eq_append_getElem (by simpa using h)]; rfl

set_option maxHeartbeats 1000000 in
theorem plain_calls (s : ByteArray) (w : World) (hs : s.size ≤ 1000000) : Calls Tryd.prog 11 #[.string s] w fun e w' => e = .returned (.bool (plainB s.data.toList)) ∧ w = w' := by
  have hs' : (s.size : Int) ≤ 1000000 := by omega
  go_enter Tryd.func11, Tryd.ntmps11
  go_wp2
  go_loop [6] (fun i => ∃ k : Nat, k ≤ s.size ∧ i = .int .i64 (k : Int) ∧ plainB (s.data.toList.take k) = true) (fun i => s.size - (intOf i).toNat)
  case atStart => exact ⟨0, Nat.zero_le _, rfl, rfl⟩
  case round =>
    obtain ⟨k, hk, rfl, hp⟩ := hrel
    have HP := Lib.hid hp
    clear hp
    by_cases hlt : k < s.size
    · have hk2 : (k : Int) < (s.size : Int) := by omega
      have hu := s[k].toNat_lt
      have HS := Lib.hid (take_snoc s k hlt)
      by_cases hc : 128 ≤ s[k].toNat
      · have hc2 : (128 : Int) ≤ (s[k].toNat : Int) := by omega
        go_wp2
        go_ret
        refine ⟨ret_bool ?_, rfl⟩
        have hm : s[k] ∈ s.data.toList := by
          have : s.data.toList[k]'(by simpa using hlt) = s[k] := rfl
          rw [← this]; exact List.getElem_mem _
        symm
        unfold plainB
        rw [List.all_eq_false]
        exact ⟨s[k], hm, by simp; omega⟩
      · have hc2 : ¬ (128 : Int) ≤ (s[k].toNat : Int) := by omega
        go_wp2
        go_round
        case rel => exact ⟨k + 1, by omega, by go_num, by rw [HS.out]; unfold plainB; rw [List.all_append]; have := HP.out; unfold plainB at this; rw [this]; simp; omega⟩
        case measure => simp [intOf]; omega
    · obtain rfl : k = s.size := by omega
      go_wp2
      go_ret
      refine ⟨ret_bool ?_, rfl⟩
      have := HP.out
      rw [List.take_of_length_le (by simp)] at this
      exact this.symm

theorem check_lit (S : ByteArray) (r : Int) (w : World) (hT : Tabs w) (hs : S.size ≤ 1000000) (h : (if checkB S then (0 : Int) else 9) = r) : Calls Tryd.prog 9 #[.string S] w fun e w' => e = .returned (.int .i64 r) ∧ Touch (fun _ => False) w w' := by
  have := check_calls S w hs hT
  rwa [h] at this

theorem lit1 : (if checkB ⟨#[97, 47, 98]⟩ then (0 : Int) else 9) = 0 := by decide +kernel
theorem lit2 : (if checkB ⟨#[97, 47, 47, 98]⟩ then (0 : Int) else 9) = 9 := by decide +kernel
theorem lit3 : (if checkB ⟨#[46, 46]⟩ then (0 : Int) else 9) = 9 := by decide +kernel
theorem lit4 : (if checkB ⟨#[195, 169]⟩ then (0 : Int) else 9) = 0 := by decide +kernel

set_option maxHeartbeats 2000000 in
theorem speaks12_calls (w : World) (hT : Tabs w) : Calls Tryd.prog 8 #[] w fun e w' => e = .returned (.bool true) ∧ Touch (fun _ => False) w w' := by
  have H1 := Lib.hid (fun W (h : Tabs W) => check_lit ⟨#[97, 47, 98]⟩ 0 W h (by decide) lit1)
  have H2 := Lib.hid (fun W (h : Tabs W) => check_lit ⟨#[97, 47, 47, 98]⟩ 9 W h (by decide) lit2)
  have H3 := Lib.hid (fun W (h : Tabs W) => check_lit ⟨#[46, 46]⟩ 9 W h (by decide) lit3)
  have H4 := Lib.hid (fun W (h : Tabs W) => check_lit ⟨#[195, 169]⟩ 0 W h (by decide) lit4)
  have P1 : RowKit.Hid (∀ W, Calls Tryd.prog 11 #[.string ⟨#[97]⟩] W fun e w' => e = .returned (.bool true) ∧ W = w') := Lib.hid (fun W => plain_calls ⟨#[97]⟩ W (by decide))
  have P2 : RowKit.Hid (∀ W, Calls Tryd.prog 11 #[.string ⟨#[195, 169]⟩] W fun e w' => e = .returned (.bool false) ∧ W = w') := Lib.hid (fun W => plain_calls ⟨#[195, 169]⟩ W (by decide))
  go_enter Tryd.func8, Tryd.ntmps8
  go_wp2_with (first
    | (go_at_call 9; first
      | ((with_reducible refine (H1.out _ hT).mono ?_); rintro e w1 ⟨rfl, ht1⟩)
      | ((with_reducible refine (H2.out _ (hT.kept ht1)).mono ?_); rintro e w2 ⟨rfl, ht2⟩)
      | ((with_reducible refine (H3.out _ (hT.kept (ht1.trans ht2))).mono ?_); rintro e w3 ⟨rfl, ht3⟩)
      | ((with_reducible refine (H4.out _ (hT.kept (ht1.trans (ht2.trans ht3)))).mono ?_); rintro e w4 ⟨rfl, ht4⟩))
    | (go_at_call 11; first
      | ((with_reducible refine (P1.out _).mono ?_); rintro e w5 ⟨rfl, rfl⟩)
      | ((with_reducible refine (P2.out _).mono ?_); rintro e w6 ⟨rfl, rfl⟩)))
  go_ret
  exact ⟨rfl, (ht1.trans (ht2.trans ht3)).trans ht4⟩
end Go.Proofs.YtmhigecchligcaaDoor
