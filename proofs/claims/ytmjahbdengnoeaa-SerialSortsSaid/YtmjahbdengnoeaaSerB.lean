/- The walks of layer 21's statements about two numbers. -/
import Derived.Test.YtmjahbdengnoeaaSerA
import Derived.Test.YtmjahbdengnoeaaBase
namespace Go.Proofs.Ytmjahbdengnoeaa
open Go Go.RowKit
set_option maxRecDepth 100000

theorem gap_edge : gapZ 4294967295 1 = 2 := by decide
theorem ahead_edge : aheadB 4294967295 0 = true := by decide
theorem ahead_not : aheadB 0 4294967295 = false := by decide
theorem max_edge : maxS 4294967295 0 = 0 := by decide

theorem less_edge (w : World) : Calls Try.prog 15 #[.int .u32 4294967295, .int .u32 0] w fun e w' => e = .returned (.bool true) ∧ w = w' := by
  have h := sless_calls 4294967295 0 (by decide) (by decide) w
  rw [ahead_edge] at h
  exact h
theorem less_not (w : World) : Calls Try.prog 15 #[.int .u32 0, .int .u32 4294967295] w fun e w' => e = .returned (.bool false) ∧ w = w' := by
  have h := sless_calls 0 4294967295 (by decide) (by decide) w
  rw [ahead_not] at h
  exact h
theorem gap_two (w : World) : Calls Try.prog 14 #[.int .u32 4294967295, .int .u32 1] w fun e w' => e = .returned (.int .i64 2) ∧ w = w' := by
  have h := sgap_calls 4294967295 1 (by decide) (by decide) w
  rw [gap_edge] at h
  exact h
theorem max_two (w : World) : Calls Try.prog 16 #[.int .u32 4294967295, .int .u32 0] w fun e w' => e = .returned (.int .u32 0) ∧ w = w' := by
  have h := smax_calls 4294967295 0 (by decide) (by decide) w
  rw [max_edge] at h
  exact h

set_option maxHeartbeats 1000000 in
theorem speaks21_calls (w : World) : Calls Try.prog 12 #[] w fun e w' => e = .returned (.bool true) ∧ w = w' := by
  go_enter Try.func12, Try.ntmps12
  go_wp2_with (first
    | (go_at_call 15; refine (less_edge _).mono ?_; rintro e w1 ⟨rfl, rfl⟩)
    | (go_at_call 15; refine (less_not _).mono ?_; rintro e w1 ⟨rfl, rfl⟩)
    | (go_at_call 14; refine (gap_two _).mono ?_; rintro e w2 ⟨rfl, rfl⟩)
    | (go_at_call 16; refine (max_two _).mono ?_; rintro e w2 ⟨rfl, rfl⟩))
  all_goals
    go_ret
    exact ⟨rfl, rfl⟩

set_option maxHeartbeats 1000000 in
theorem stwo_calls (a b : Nat) (ha : a < 4294967296) (hb : b < 4294967296) (w : World) : Calls Try.prog 3 #[.int .u32 (a : Nat), .int .u32 (b : Nat)] w fun e w' => e = .returned (.bool true) ∧ w = w' := by
  have HG := Lib.hid (fun W => rgap_calls a b ha hb W)
  have HS := Lib.hid (fun W => sgap_calls a b ha hb W)
  have HL := Lib.hid (fun W => sless_calls a b ha hb W)
  have HM := Lib.hid (fun W => smax_calls a b ha hb W)
  have hl : aheadB a b = decide (0 < gapZ a b) := rfl
  have hm : maxS a b = if 0 < gapZ a b then b else a := rfl
  generalize gapZ a b = g at *
  generalize aheadB a b = l at *
  generalize maxS a b = m at *
  by_cases h0 : 0 < g
  · rw [if_pos h0] at hm
    rw [decide_eq_true h0] at hl
    subst hm hl
    go_enter Try.func3, Try.ntmps3
    go_wp2_with (first
      | (go_at_call 12; refine (speaks21_calls _).mono ?_; rintro e w1 ⟨rfl, rfl⟩)
      | (go_at_call 13; refine (HG.out _).mono ?_; rintro e w1 ⟨rfl, rfl⟩)
      | (go_at_call 14; refine (HS.out _).mono ?_; rintro e w1 ⟨rfl, rfl⟩)
      | (go_at_call 15; refine (HL.out _).mono ?_; rintro e w1 ⟨rfl, rfl⟩)
      | (go_at_call 16; refine (HM.out _).mono ?_; rintro e w1 ⟨rfl, rfl⟩))
    all_goals
      go_ret
      exact ⟨rfl, rfl⟩
  · rw [if_neg h0] at hm
    rw [decide_eq_false h0] at hl
    subst hm hl
    go_enter Try.func3, Try.ntmps3
    go_wp2_with (first
      | (go_at_call 12; refine (speaks21_calls _).mono ?_; rintro e w1 ⟨rfl, rfl⟩)
      | (go_at_call 13; refine (HG.out _).mono ?_; rintro e w1 ⟨rfl, rfl⟩)
      | (go_at_call 14; refine (HS.out _).mono ?_; rintro e w1 ⟨rfl, rfl⟩)
      | (go_at_call 15; refine (HL.out _).mono ?_; rintro e w1 ⟨rfl, rfl⟩)
      | (go_at_call 16; refine (HM.out _).mono ?_; rintro e w1 ⟨rfl, rfl⟩))
    all_goals
      go_ret
      refine ⟨sret_bool ?_, rfl⟩
      simp
      omega

set_option maxHeartbeats 1000000 in
theorem sinlaw_calls (a b : Nat) (n : Int) (ha : a < 4294967296) (hb : b < 4294967296) (hn : n ≤ 9223372036854775807) (w : World) : Calls Try.prog 4 #[.int .u32 (a : Nat), .int .u32 (b : Nat), .int .i64 n] w fun e w' => e = .returned (.bool true) ∧ w = w' := by
  have HI := Lib.hid (fun W => sin_calls a b n ha hb hn W)
  have hi : inS a b n = decide (((a : Int) - b) % 4294967296 < n) := rfl
  generalize inS a b n = i at *
  obtain ⟨d, hd⟩ : ∃ d : Int, d = (a : Int) - b := ⟨_, rfl⟩
  by_cases h0 : d < 0
  · have hi2 : i = decide ((a : Int) - b + 4294967296 < n) := by rw [hi, show ((a : Int) - b) % 4294967296 = (a : Int) - b + 4294967296 by omega]
    have h0' : (a : Int) - b < 0 := by omega
    clear hi hd h0
    subst hi2
    go_enter Try.func4, Try.ntmps4
    go_wp2_with (first
      | (go_at_call 12; refine (speaks21_calls _).mono ?_; rintro e w1 ⟨rfl, rfl⟩)
      | (go_at_call 17; refine (HI.out _).mono ?_; rintro e w1 ⟨rfl, rfl⟩))
    all_goals
      go_ret
      exact ⟨rfl, rfl⟩
  · have hi2 : i = decide ((a : Int) - b < n) := by rw [hi, show ((a : Int) - b) % 4294967296 = (a : Int) - b by omega]
    have h0' : ¬ (a : Int) - b < 0 := by omega
    clear hi hd h0
    subst hi2
    go_enter Try.func4, Try.ntmps4
    go_wp2_with (first
      | (go_at_call 12; refine (speaks21_calls _).mono ?_; rintro e w1 ⟨rfl, rfl⟩)
      | (go_at_call 17; refine (HI.out _).mono ?_; rintro e w1 ⟨rfl, rfl⟩))
    all_goals
      go_ret
      exact ⟨rfl, rfl⟩
end Go.Proofs.Ytmjahbdengnoeaa
