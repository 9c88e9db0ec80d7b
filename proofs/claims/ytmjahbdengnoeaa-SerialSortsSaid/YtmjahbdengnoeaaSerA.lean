/- Contracts of package serial: gaps, which comes ahead, the greater one, one of some numbers; and the reference's Gap. -/
import Derived.Test.YtmjahbdengnoeaaRows
import Derived.Test.YtmjahbdengnoeaaNum
import Derived.Test.YtmjahbdengnoeaaMem
import Derived.WalkSpells
import Derived.OwnWalk
import Derived.WalkLawsBesides
import Derived.Lib.Hide
import Derived.Laws.BitsAllLaws
import Derived.Laws.Rows
import Derived.Laws.ResultCell
import Derived.RegionTactic
import Derived.BigRegion
import Derived.BigQuiet
import Derived.Deep.QuietTactic
import Derived.Deep.RegionHeld3
import Derived.Deep.RegionLaw
namespace Go.Proofs.Ytmjahbdengnoeaa
open Go Go.RowKit
set_option maxRecDepth 100000

theorem sret_bool {a b : Bool} (h : a = b) : Ending.returned (.bool a) = .returned (.bool b) := by rw [h]
theorem sret_int {k : IntKind} {a b : Int} (h : a = b) : Ending.returned (.int k a) = .returned (.int k b) := by rw [h]

/-- From one number to another one. -/
def gapZ (a b : Nat) : Int := if ((b : Int) - a) % 4294967296 < 2147483648 then ((b : Int) - a) % 4294967296 else ((b : Int) - a) % 4294967296 - 4294967296
def aheadB (a b : Nat) : Bool := decide (0 < gapZ a b)
def maxS (a b : Nat) : Nat := if 0 < gapZ a b then b else a
def inS (a b : Nat) (n : Int) : Bool := decide (((a : Int) - b) % 4294967296 < n)

theorem gap_lo (a b : Nat) : -2147483648 ≤ gapZ a b := by unfold gapZ; split <;> omega
theorem gap_hi (a b : Nat) : gapZ a b < 2147483648 := by unfold gapZ; split <;> omega

set_option maxHeartbeats 1000000 in
theorem sgap_calls (a b : Nat) (_ha : a < 4294967296) (_hb : b < 4294967296) (w : World) : Calls Try.prog 14 #[.int .u32 (a : Nat), .int .u32 (b : Nat)] w fun e w' => e = .returned (.int .i64 (gapZ a b)) ∧ w = w' := by
  go_enter Try.func14, Try.ntmps14
  go_wp2
  all_goals
    go_ret
    refine ⟨sret_int ?_, rfl⟩
    unfold gapZ
    unfold wrap64 wrap32
    split <;> omega

set_option maxHeartbeats 1000000 in
theorem rgap_calls (a b : Nat) (ha : a < 4294967296) (hb : b < 4294967296) (w : World) : Calls Try.prog 13 #[.int .u32 (a : Nat), .int .u32 (b : Nat)] w fun e w' => e = .returned (.int .i64 (gapZ a b)) ∧ w = w' := by
  go_enter Try.func13, Try.ntmps13
  go_wp2
  all_goals
    go_ret
    refine ⟨sret_int ?_, rfl⟩
    unfold gapZ
    split <;> omega

set_option maxHeartbeats 1000000 in
theorem sless_calls (a b : Nat) (ha : a < 4294967296) (hb : b < 4294967296) (w : World) : Calls Try.prog 15 #[.int .u32 (a : Nat), .int .u32 (b : Nat)] w fun e w' => e = .returned (.bool (aheadB a b)) ∧ w = w' := by
  go_enter Try.func15, Try.ntmps15
  go_wp2_with (go_at_call 14; refine (sgap_calls a b ha hb _).mono ?_; rintro e w' ⟨rfl, rfl⟩)
  all_goals
    go_ret
    refine ⟨sret_bool ?_, rfl⟩
    unfold aheadB
    simp

set_option maxHeartbeats 1000000 in
theorem smax_calls (a b : Nat) (ha : a < 4294967296) (hb : b < 4294967296) (w : World) : Calls Try.prog 16 #[.int .u32 (a : Nat), .int .u32 (b : Nat)] w fun e w' => e = .returned (.int .u32 (maxS a b : Nat)) ∧ w = w' := by
  by_cases h : 0 < gapZ a b
  · have hm : maxS a b = b := by unfold maxS; rw [if_pos h]
    have hB : aheadB a b = true := by unfold aheadB; simp [h]
    rw [hm]
    go_enter Try.func16, Try.ntmps16
    go_wp2_with (go_at_call 15; refine (sless_calls a b ha hb _).mono ?_; rintro e w' ⟨rfl, rfl⟩; rw [hB])
    all_goals
      go_ret
      exact ⟨rfl, rfl⟩
  · have hm : maxS a b = a := by unfold maxS; rw [if_neg h]
    have hB : aheadB a b = false := by unfold aheadB; simp [h]
    rw [hm]
    go_enter Try.func16, Try.ntmps16
    go_wp2_with (go_at_call 15; refine (sless_calls a b ha hb _).mono ?_; rintro e w' ⟨rfl, rfl⟩; rw [hB])
    all_goals
      go_ret
      exact ⟨rfl, rfl⟩

set_option maxHeartbeats 1000000 in
theorem sin_calls (a b : Nat) (n : Int) (_ha : a < 4294967296) (_hb : b < 4294967296) (hn : n ≤ 9223372036854775807) (w : World) : Calls Try.prog 17 #[.int .u32 (a : Nat), .int .u32 (b : Nat), .int .i64 n] w fun e w' => e = .returned (.bool (inS a b n)) ∧ w = w' := by
  go_enter Try.func17, Try.ntmps17
  go_wp2
  all_goals
    go_ret
    refine ⟨sret_bool ?_, rfl⟩
    unfold inS
    first
      | rfl
      | (simp; omega)
      | (rw [Bool.eq_iff_iff]; simp; omega)
end Go.Proofs.Ytmjahbdengnoeaa
