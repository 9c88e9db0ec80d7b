/- The walk of the statement SerialRounds. -/
import Derived.Test.YtmjahbdengnoeaaSerB
namespace Go.Proofs.Ytmjahbdengnoeaa
open Go Go.RowKit
set_option maxRecDepth 100000

theorem and_mask (n : Int) : ∃ m : Nat, bits .and .i64 n 2147483646 = (m : Int) ∧ m ≤ 2147483646 := by
  have key : (BitVec.ofInt 64 n &&& BitVec.ofInt 64 2147483646).toNat ≤ 2147483646 := by
    rw [BitVec.toNat_and]
    exact Nat.and_le_right
  refine ⟨(BitVec.ofInt 64 n &&& BitVec.ofInt 64 2147483646).toNat, ?_, key⟩
  show IntKind.i64.wrap ((BitVec.ofInt 64 n &&& BitVec.ofInt 64 2147483646).toNat : Nat) = _
  rw [IntKind.wrap_i64]
  omega

theorem gap_step (a b m : Nat) (_ha : a < 4294967296) (hm : m ≤ 2147483646) (hb : b = (a + (m + 1)) % 4294967296) : gapZ a b = m + 1 ∧ gapZ b a = -(m + 1 : Int) ∧ inS a a (m + 1) = true ∧ inS b a (m + 1) = false := by
  refine ⟨?_, ?_, ?_, ?_⟩
  · unfold gapZ; split <;> omega
  · unfold gapZ; split <;> omega
  · unfold inS; simp
    try omega
  · unfold inS; simp
    try omega

set_option maxHeartbeats 4000000 in
theorem srounds_calls (a : Nat) (n : Int) (ha : a < 4294967296) (w : World) : Calls Try.prog 5 #[.int .u32 (a : Nat), .int .i64 n] w fun e w' => e = .returned (.bool true) ∧ w = w' := by
  obtain ⟨m, hm, hmb⟩ := and_mask n
  obtain ⟨b, hb⟩ : ∃ b : Nat, b = (a + (m + 1)) % 4294967296 := ⟨_, rfl⟩
  have hbl : b < 4294967296 := by omega
  obtain ⟨h1, h2, h3, h4⟩ := gap_step a b m ha hmb hb
  have hn : ((m : Int) + 1) ≤ 9223372036854775807 := by omega
  have HAB := Lib.hid (fun W => sless_calls a b ha hbl W)
  have HBA := Lib.hid (fun W => sless_calls b a hbl ha W)
  have GAB := Lib.hid (fun W => sgap_calls a b ha hbl W)
  have GBA := Lib.hid (fun W => sgap_calls b a hbl ha W)
  have IAA := Lib.hid (fun W => sin_calls a a (m + 1) ha ha hn W)
  have IBA := Lib.hid (fun W => sin_calls b a (m + 1) hbl ha hn W)
  have MAB := Lib.hid (fun W => smax_calls a b ha hbl W)
  have MBA := Lib.hid (fun W => smax_calls b a hbl ha W)
  rw [show aheadB a b = true by unfold aheadB; rw [h1]; exact decide_eq_true (by omega)] at HAB
  rw [show aheadB b a = false by unfold aheadB; rw [h2]; exact decide_eq_false (by omega)] at HBA
  rw [h1] at GAB
  rw [h2] at GBA
  rw [h3] at IAA
  rw [h4] at IBA
  rw [show maxS a b = b by unfold maxS; rw [h1, if_pos (by omega)]] at MAB
  rw [show maxS b a = b by unfold maxS; rw [h2, if_neg (by omega)]] at MBA
  clear h1 h2 h3 h4
  have hbI : ((a : Int) + (m + 1)) % 4294967296 = (b : Int) := by omega
  have hbJ : ((a : Int) + (1 + m)) % 4294967296 = (b : Int) := by omega
  have HB := Lib.hid hb
  clear hb
  have hcm : (1 : Int) + m = m + 1 := by omega
  go_enter Try.func5, Try.ntmps5
  go_wp2_with (first
    | (go_at_call 12; refine (speaks21_calls _).mono ?_; rintro e w1 ⟨rfl, rfl⟩))
  rw [hbI]
  clear hbI hbJ hcm hm
  have hN1 : (0 : Int) < (m : Int) + 1 := by omega
  have hN2 : (m : Int) + 1 ≤ 2147483647 := by omega
  generalize (m : Int) + 1 = N at *
  clear HB
  go_wp2_with fail
  refine (HAB.out _).mono ?_
  rintro e w1 ⟨rfl, rfl⟩
  go_wp2_with fail
  refine (HBA.out _).mono ?_
  rintro e w1 ⟨rfl, rfl⟩
  go_wp2_with fail
  refine (GAB.out _).mono ?_
  rintro e w1 ⟨rfl, rfl⟩
  go_wp2_with fail
  refine (GBA.out _).mono ?_
  rintro e w1 ⟨rfl, rfl⟩
  go_wp2_with fail
  refine (IAA.out _).mono ?_
  rintro e w1 ⟨rfl, rfl⟩
  go_wp2_with fail
  refine (IBA.out _).mono ?_
  rintro e w1 ⟨rfl, rfl⟩
  go_wp2_with fail
  refine (MAB.out _).mono ?_
  rintro e w1 ⟨rfl, rfl⟩
  go_wp2_with fail
  refine (MBA.out _).mono ?_
  rintro e w1 ⟨rfl, rfl⟩
  go_wp2_with fail
  go_ret
  exact ⟨rfl, rfl⟩

theorem same_touch {P : Program} {f : FuncId} {args : Array Value} {w : World} {r : Ending} (h : Calls P f args w fun e w' => e = r ∧ w = w') : Calls P f args w fun e w' => e = r ∧ Touch (fun _ => False) w w' :=
  h.mono fun e w' ⟨h1, h2⟩ => ⟨h1, by subst h2; exact Touch.refl _ _⟩
end Go.Proofs.Ytmjahbdengnoeaa
