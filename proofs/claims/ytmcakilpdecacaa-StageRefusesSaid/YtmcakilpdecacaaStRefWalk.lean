/- The statement StageRefuses over the translated program. -/
import Derived.Test.YtmcakilpdecacaaStD
namespace Go.Proofs.Ytmcakilpdecacaa
open Go Go.RowKit Go.Maps
set_option maxRecDepth 100000

set_option maxHeartbeats 1000000 in
theorem stref_arg (a s z : Int) (hs : s < 1) (w : World) : Calls Try.prog 6 #[.int .i64 a, .int .i64 s, .int .i64 z] w fun e w' => e = .returned (.bool true) ∧ Touch (fun _ => False) w w' := by
  have d1 : decide (s < 1) = true := decide_eq_true hs
  go_enter Try.func6, Try.ntmps6
  go_wp2_with fail
  refine (speaks19_calls w).mono ?_
  rintro e w0 ⟨rfl, hT0⟩
  go_wp2_with fail
  refine (new_calls 8 w0 (by omega) (by omega)).mono ?_
  rintro e w1 ⟨b, lb, mb, rfl, hD1, hN, hT1⟩
  have HD1 := Lib.hid hD1
  have HT1 := Lib.hid (hT0.trans hT1)
  clear hD1 hN hT0 hT1
  go_wp2_with fail
  refine (stnew_arg b a s z hs _).mono ?_
  rintro e w' ⟨rfl, rfl⟩
  go_wp2_with (first
    | (go_at_call 27; with_reducible refine (stnew_nil _ _ _ _).mono ?_; rintro e w' ⟨rfl, rfl⟩)
    | (go_at_call 28; refine (stread_nil _ _ _).mono ?_; rintro e w' ⟨rfl, rfl⟩)
    | (go_at_call 32; refine (stappend_nil _ _).mono ?_; rintro e w' ⟨rfl, rfl⟩)
    | (go_at_call 31; refine (stsync_nil _).mono ?_; rintro e w' ⟨rfl, rfl⟩)
    | (go_at_call 30; refine (stcut_nil _ _).mono ?_; rintro e w' ⟨rfl, rfl⟩)
    | (go_at_call 33; with_reducible refine (stlen_nil _).mono ?_; rintro e w' ⟨rfl, rfl⟩)
    | (go_at_call 34; with_reducible refine (stroom_nil _).mono ?_; rintro e w' ⟨rfl, rfl⟩))
  go_ret
  exact ⟨rfl, HT1.out⟩

set_option maxHeartbeats 1000000 in
theorem stref_neg (a s z : Int) (hs : ¬ s < 1) (ha : a < 0) (w : World) : Calls Try.prog 6 #[.int .i64 a, .int .i64 s, .int .i64 z] w fun e w' => e = .returned (.bool true) ∧ Touch (fun _ => False) w w' := by
  have d1 : decide (s < 1) = false := decide_eq_false hs
  have d2 : decide (0 ≤ a) = false := decide_eq_false (by omega)
  go_enter Try.func6, Try.ntmps6
  go_wp2_with fail
  refine (speaks19_calls w).mono ?_
  rintro e w0 ⟨rfl, hT0⟩
  go_wp2_with fail
  refine (new_calls 8 w0 (by omega) (by omega)).mono ?_
  rintro e w1 ⟨b, lb, mb, rfl, hD1, hN, hT1⟩
  have HD1 := Lib.hid hD1
  have HT1 := Lib.hid (hT0.trans hT1)
  clear hD1 hN hT0 hT1
  go_wp2_with fail
  refine (stnew_neg HD1.out a s z (by omega) ha).mono ?_
  rintro e w' ⟨rfl, rfl⟩
  go_wp2_with (first
    | (go_at_call 27; with_reducible refine (stnew_nil _ _ _ _).mono ?_; rintro e w' ⟨rfl, rfl⟩)
    | (go_at_call 28; refine (stread_nil _ _ _).mono ?_; rintro e w' ⟨rfl, rfl⟩)
    | (go_at_call 32; refine (stappend_nil _ _).mono ?_; rintro e w' ⟨rfl, rfl⟩)
    | (go_at_call 31; refine (stsync_nil _).mono ?_; rintro e w' ⟨rfl, rfl⟩)
    | (go_at_call 30; refine (stcut_nil _ _).mono ?_; rintro e w' ⟨rfl, rfl⟩)
    | (go_at_call 33; with_reducible refine (stlen_nil _).mono ?_; rintro e w' ⟨rfl, rfl⟩)
    | (go_at_call 34; with_reducible refine (stroom_nil _).mono ?_; rintro e w' ⟨rfl, rfl⟩))
  go_ret
  exact ⟨rfl, HT1.out⟩

set_option maxHeartbeats 1000000 in
theorem stref_far1 (a s z : Int) (hs : ¬ s < 1) (hs2 : s ≤ 9223372036854775807) (ha : 8 < a) (w : World) : Calls Try.prog 6 #[.int .i64 a, .int .i64 s, .int .i64 z] w fun e w' => e = .returned (.bool true) ∧ Touch (fun _ => False) w w' := by
  have d1 : decide (s < 1) = false := decide_eq_false hs
  have d2 : decide (0 ≤ a) = true := decide_eq_true (by omega)
  have d3 : decide (a ≤ 8) = false := decide_eq_false (by omega)
  go_enter Try.func6, Try.ntmps6
  go_wp2_with fail
  refine (speaks19_calls w).mono ?_
  rintro e w0 ⟨rfl, hT0⟩
  go_wp2_with fail
  refine (new_calls 8 w0 (by omega) (by omega)).mono ?_
  rintro e w1 ⟨b, lb, mb, rfl, hD1, hN, hT1⟩
  have HD1 := Lib.hid hD1
  have HT1 := Lib.hid (hT0.trans hT1)
  clear hD1 hN hT0 hT1
  go_wp2_with fail
  refine (stnew_far HD1.out a s z (by omega) hs2 (by omega) (by omega)).mono ?_
  rintro e w' ⟨rfl, rfl⟩
  go_wp2_with (first
    | (go_at_call 27; with_reducible refine (stnew_nil _ _ _ _).mono ?_; rintro e w' ⟨rfl, rfl⟩)
    | (go_at_call 28; refine (stread_nil _ _ _).mono ?_; rintro e w' ⟨rfl, rfl⟩)
    | (go_at_call 32; refine (stappend_nil _ _).mono ?_; rintro e w' ⟨rfl, rfl⟩)
    | (go_at_call 31; refine (stsync_nil _).mono ?_; rintro e w' ⟨rfl, rfl⟩)
    | (go_at_call 30; refine (stcut_nil _ _).mono ?_; rintro e w' ⟨rfl, rfl⟩)
    | (go_at_call 33; with_reducible refine (stlen_nil _).mono ?_; rintro e w' ⟨rfl, rfl⟩)
    | (go_at_call 34; with_reducible refine (stroom_nil _).mono ?_; rintro e w' ⟨rfl, rfl⟩))
  go_ret
  exact ⟨rfl, HT1.out⟩

set_option maxHeartbeats 1000000 in
theorem stref_far2 (a s z : Int) (hs : ¬ s < 1) (hs2 : s ≤ 9223372036854775807) (ha : 0 ≤ a) (ha8 : a ≤ 8) (has : 8 - a < s) (w : World) : Calls Try.prog 6 #[.int .i64 a, .int .i64 s, .int .i64 z] w fun e w' => e = .returned (.bool true) ∧ Touch (fun _ => False) w w' := by
  have d1 : decide (s < 1) = false := decide_eq_false hs
  have d2 : decide (0 ≤ a) = true := decide_eq_true (by omega)
  have d3 : decide (a ≤ 8) = true := decide_eq_true (by omega)
  have hw : IntKind.i64.wrap (8 - a) = 8 - a := IntWalk.i64_in _ (by omega)
  have d4 : decide (s ≤ 8 - a) = false := decide_eq_false (by omega)
  go_enter Try.func6, Try.ntmps6
  go_wp2_with fail
  refine (speaks19_calls w).mono ?_
  rintro e w0 ⟨rfl, hT0⟩
  go_wp2_with fail
  refine (new_calls 8 w0 (by omega) (by omega)).mono ?_
  rintro e w1 ⟨b, lb, mb, rfl, hD1, hN, hT1⟩
  have HD1 := Lib.hid hD1
  have HT1 := Lib.hid (hT0.trans hT1)
  clear hD1 hN hT0 hT1
  go_wp2_with fail
  refine (stnew_far HD1.out a s z (by omega) hs2 (by omega) (by omega)).mono ?_
  rintro e w' ⟨rfl, rfl⟩
  go_wp2_with (first
    | (go_at_call 27; with_reducible refine (stnew_nil _ _ _ _).mono ?_; rintro e w' ⟨rfl, rfl⟩)
    | (go_at_call 28; refine (stread_nil _ _ _).mono ?_; rintro e w' ⟨rfl, rfl⟩)
    | (go_at_call 32; refine (stappend_nil _ _).mono ?_; rintro e w' ⟨rfl, rfl⟩)
    | (go_at_call 31; refine (stsync_nil _).mono ?_; rintro e w' ⟨rfl, rfl⟩)
    | (go_at_call 30; refine (stcut_nil _ _).mono ?_; rintro e w' ⟨rfl, rfl⟩)
    | (go_at_call 33; with_reducible refine (stlen_nil _).mono ?_; rintro e w' ⟨rfl, rfl⟩)
    | (go_at_call 34; with_reducible refine (stroom_nil _).mono ?_; rintro e w' ⟨rfl, rfl⟩))
  go_ret
  exact ⟨rfl, HT1.out⟩

set_option maxHeartbeats 1000000 in
theorem stref_size1 (a s : Nat) (z : Int) (hs : 1 ≤ s) (ha : a + s ≤ 8) (hz : z < 0) (w : World) : Calls Try.prog 6 #[.int .i64 a, .int .i64 s, .int .i64 z] w fun e w' => e = .returned (.bool true) ∧ Touch (fun _ => False) w w' := by
  have d1 : decide ((s : Int) < 1) = false := decide_eq_false (by omega)
  have hs0 : ¬ s = 0 := by omega
  have d2 : decide (0 ≤ (a : Int)) = true := decide_eq_true (by omega)
  have d3 : decide ((a : Int) ≤ 8) = true := decide_eq_true (by omega)
  have hw : IntKind.i64.wrap (8 - (a : Int)) = 8 - (a : Int) := IntWalk.i64_in _ (by omega)
  have d4 : decide ((s : Int) ≤ 8 - (a : Int)) = true := decide_eq_true (by omega)
  have hw2 : IntKind.i64.wrap (64 * (s : Int)) = 64 * (s : Int) := IntWalk.i64_in _ (by omega)
  have d5 : decide (0 ≤ z) = false := decide_eq_false (by omega)
  go_enter Try.func6, Try.ntmps6
  go_wp2_with fail
  refine (speaks19_calls w).mono ?_
  rintro e w0 ⟨rfl, hT0⟩
  go_wp2_with fail
  refine (new_calls 8 w0 (by omega) (by omega)).mono ?_
  rintro e w1 ⟨b, lb, mb, rfl, hD1, hN, hT1⟩
  have HD1 := Lib.hid hD1
  have HT1 := Lib.hid (hT0.trans hT1)
  clear hD1 hN hT0 hT1
  go_wp2_with fail
  refine (stnew_size HD1.out a s z hs ha (.inl hz)).mono ?_
  rintro e w' ⟨rfl, rfl⟩
  go_wp2_with (first
    | (go_at_call 27; with_reducible refine (stnew_nil _ _ _ _).mono ?_; rintro e w' ⟨rfl, rfl⟩)
    | (go_at_call 28; refine (stread_nil _ _ _).mono ?_; rintro e w' ⟨rfl, rfl⟩)
    | (go_at_call 32; refine (stappend_nil _ _).mono ?_; rintro e w' ⟨rfl, rfl⟩)
    | (go_at_call 31; refine (stsync_nil _).mono ?_; rintro e w' ⟨rfl, rfl⟩)
    | (go_at_call 30; refine (stcut_nil _ _).mono ?_; rintro e w' ⟨rfl, rfl⟩)
    | (go_at_call 33; with_reducible refine (stlen_nil _).mono ?_; rintro e w' ⟨rfl, rfl⟩)
    | (go_at_call 34; with_reducible refine (stroom_nil _).mono ?_; rintro e w' ⟨rfl, rfl⟩))
  go_ret
  exact ⟨rfl, HT1.out⟩

set_option maxHeartbeats 1000000 in
theorem stref_size2 (a s : Nat) (z : Int) (hs : 1 ≤ s) (ha : a + s ≤ 8) (hz : 512 < z) (w : World) : Calls Try.prog 6 #[.int .i64 a, .int .i64 s, .int .i64 z] w fun e w' => e = .returned (.bool true) ∧ Touch (fun _ => False) w w' := by
  have d1 : decide ((s : Int) < 1) = false := decide_eq_false (by omega)
  have hs0 : ¬ s = 0 := by omega
  have d2 : decide (0 ≤ (a : Int)) = true := decide_eq_true (by omega)
  have d3 : decide ((a : Int) ≤ 8) = true := decide_eq_true (by omega)
  have hw : IntKind.i64.wrap (8 - (a : Int)) = 8 - (a : Int) := IntWalk.i64_in _ (by omega)
  have d4 : decide ((s : Int) ≤ 8 - (a : Int)) = true := decide_eq_true (by omega)
  have hw2 : IntKind.i64.wrap (64 * (s : Int)) = 64 * (s : Int) := IntWalk.i64_in _ (by omega)
  have d5 : decide (0 ≤ z) = true := decide_eq_true (by omega)
  have d6 : decide (z ≤ 512) = false := decide_eq_false (by omega)
  go_enter Try.func6, Try.ntmps6
  go_wp2_with fail
  refine (speaks19_calls w).mono ?_
  rintro e w0 ⟨rfl, hT0⟩
  go_wp2_with fail
  refine (new_calls 8 w0 (by omega) (by omega)).mono ?_
  rintro e w1 ⟨b, lb, mb, rfl, hD1, hN, hT1⟩
  have HD1 := Lib.hid hD1
  have HT1 := Lib.hid (hT0.trans hT1)
  clear hD1 hN hT0 hT1
  go_wp2_with fail
  refine (stnew_size HD1.out a s z hs ha (.inr (by omega))).mono ?_
  rintro e w' ⟨rfl, rfl⟩
  go_wp2_with (first
    | (go_at_call 27; with_reducible refine (stnew_nil _ _ _ _).mono ?_; rintro e w' ⟨rfl, rfl⟩)
    | (go_at_call 28; refine (stread_nil _ _ _).mono ?_; rintro e w' ⟨rfl, rfl⟩)
    | (go_at_call 32; refine (stappend_nil _ _).mono ?_; rintro e w' ⟨rfl, rfl⟩)
    | (go_at_call 31; refine (stsync_nil _).mono ?_; rintro e w' ⟨rfl, rfl⟩)
    | (go_at_call 30; refine (stcut_nil _ _).mono ?_; rintro e w' ⟨rfl, rfl⟩)
    | (go_at_call 33; with_reducible refine (stlen_nil _).mono ?_; rintro e w' ⟨rfl, rfl⟩)
    | (go_at_call 34; with_reducible refine (stroom_nil _).mono ?_; rintro e w' ⟨rfl, rfl⟩))
  go_ret
  exact ⟨rfl, HT1.out⟩

set_option maxHeartbeats 1000000 in
theorem stref_size3 (a s : Nat) (z : Int) (hs : 1 ≤ s) (ha : a + s ≤ 8) (hz0 : 0 ≤ z) (hz5 : z ≤ 512) (hz : 64 * (s : Int) < z) (w : World) : Calls Try.prog 6 #[.int .i64 a, .int .i64 s, .int .i64 z] w fun e w' => e = .returned (.bool true) ∧ Touch (fun _ => False) w w' := by
  have d1 : decide ((s : Int) < 1) = false := decide_eq_false (by omega)
  have hs0 : ¬ s = 0 := by omega
  have d2 : decide (0 ≤ (a : Int)) = true := decide_eq_true (by omega)
  have d3 : decide ((a : Int) ≤ 8) = true := decide_eq_true (by omega)
  have hw : IntKind.i64.wrap (8 - (a : Int)) = 8 - (a : Int) := IntWalk.i64_in _ (by omega)
  have d4 : decide ((s : Int) ≤ 8 - (a : Int)) = true := decide_eq_true (by omega)
  have hw2 : IntKind.i64.wrap (64 * (s : Int)) = 64 * (s : Int) := IntWalk.i64_in _ (by omega)
  have d5 : decide (0 ≤ z) = true := decide_eq_true (by omega)
  have d6 : decide (z ≤ 512) = true := decide_eq_true (by omega)
  have d7 : decide (z ≤ 64 * (s : Int)) = false := decide_eq_false (by omega)
  go_enter Try.func6, Try.ntmps6
  go_wp2_with fail
  refine (speaks19_calls w).mono ?_
  rintro e w0 ⟨rfl, hT0⟩
  go_wp2_with fail
  refine (new_calls 8 w0 (by omega) (by omega)).mono ?_
  rintro e w1 ⟨b, lb, mb, rfl, hD1, hN, hT1⟩
  have HD1 := Lib.hid hD1
  have HT1 := Lib.hid (hT0.trans hT1)
  clear hD1 hN hT0 hT1
  go_wp2_with fail
  refine (stnew_size HD1.out a s z hs ha (.inr (by omega))).mono ?_
  rintro e w' ⟨rfl, rfl⟩
  go_wp2_with (first
    | (go_at_call 27; with_reducible refine (stnew_nil _ _ _ _).mono ?_; rintro e w' ⟨rfl, rfl⟩)
    | (go_at_call 28; refine (stread_nil _ _ _).mono ?_; rintro e w' ⟨rfl, rfl⟩)
    | (go_at_call 32; refine (stappend_nil _ _).mono ?_; rintro e w' ⟨rfl, rfl⟩)
    | (go_at_call 31; refine (stsync_nil _).mono ?_; rintro e w' ⟨rfl, rfl⟩)
    | (go_at_call 30; refine (stcut_nil _ _).mono ?_; rintro e w' ⟨rfl, rfl⟩)
    | (go_at_call 33; with_reducible refine (stlen_nil _).mono ?_; rintro e w' ⟨rfl, rfl⟩)
    | (go_at_call 34; with_reducible refine (stroom_nil _).mono ?_; rintro e w' ⟨rfl, rfl⟩))
  go_ret
  exact ⟨rfl, HT1.out⟩

set_option maxHeartbeats 1000000 in
theorem stref_ok (a s z : Nat) (hs : 1 ≤ s) (ha : a + s ≤ 8) (hz : z ≤ s * 64) (w : World) : Calls Try.prog 6 #[.int .i64 a, .int .i64 s, .int .i64 z] w fun e w' => e = .returned (.bool true) ∧ Touch (fun _ => False) w w' := by
  have d1 : decide ((s : Int) < 1) = false := decide_eq_false (by omega)
  have hs0 : ¬ s = 0 := by omega
  have d2 : decide (0 ≤ (a : Int)) = true := decide_eq_true (by omega)
  have d3 : decide ((a : Int) ≤ 8) = true := decide_eq_true (by omega)
  have hw : IntKind.i64.wrap (8 - (a : Int)) = 8 - (a : Int) := IntWalk.i64_in _ (by omega)
  have d4 : decide ((s : Int) ≤ 8 - (a : Int)) = true := decide_eq_true (by omega)
  have hw2 : IntKind.i64.wrap (64 * (s : Int)) = 64 * (s : Int) := IntWalk.i64_in _ (by omega)
  have d5 : decide (0 ≤ (z : Int)) = true := decide_eq_true (by omega)
  have d6 : decide ((z : Int) ≤ 512) = true := decide_eq_true (by omega)
  have d7 : decide ((z : Int) ≤ 64 * (s : Int)) = true := decide_eq_true (by omega)
  obtain ⟨q, hq⟩ : ∃ q : Nat, s * 64 - z = q := ⟨_, rfl⟩
  have hqI : 64 * (s : Int) - (z : Int) = (q : Int) := by omega
  have hwq : IntKind.i64.wrap (64 * (s : Int) - (z : Int)) = (q : Int) := by rw [hqI]; exact IntWalk.i64_in _ (by omega)
  go_enter Try.func6, Try.ntmps6
  go_wp2_with fail
  refine (speaks19_calls w).mono ?_
  rintro e w0 ⟨rfl, hT0⟩
  go_wp2_with fail
  refine (new_calls 8 w0 (by omega) (by omega)).mono ?_
  rintro e w1 ⟨b, lb, mb, rfl, hD1, hN, hT1⟩
  have HD1 := Lib.hid hD1
  have HT1 := Lib.hid (hT0.trans hT1)
  clear hD1 hN hT0 hT1
  go_wp2_with fail
  refine (stnew_calls HD1.out a s z hs ha hz).mono ?_
  rintro e w2 ⟨fb, rfl, hF, hfb, hT2⟩
  have HF := Lib.hid hF
  have HT2 := Lib.hid (HT1.out.trans hT2)
  have HR : Hid (∀ W, Touch (fun _ => False) w2 W → Calls Try.prog 34 #[.pointer (some ⟨fb, 0, none⟩)] W fun e w' => e = .returned (.int .i64 q) ∧ Touch (fun _ => False) W w') := Lib.hid (fun W hW => by
    rw [← hq]; exact stroom_calls (hF.kept hW id) hz (by omega))
  clear hF hT2 hfb hq
  go_wp2_with (first
    | (go_at_call 27; with_reducible refine (stnew_nil _ _ _ _).mono ?_; rintro e w' ⟨rfl, rfl⟩)
    | (go_at_call 28; refine (stread_nil _ _ _).mono ?_; rintro e w' ⟨rfl, rfl⟩)
    | (go_at_call 32; refine (stappend_nil _ _).mono ?_; rintro e w' ⟨rfl, rfl⟩)
    | (go_at_call 31; refine (stsync_nil _).mono ?_; rintro e w' ⟨rfl, rfl⟩)
    | (go_at_call 30; refine (stcut_nil _ _).mono ?_; rintro e w' ⟨rfl, rfl⟩)
    | (go_at_call 33; with_reducible refine (stlen_nil _).mono ?_; rintro e w' ⟨rfl, rfl⟩)
    | (go_at_call 34; with_reducible refine (stroom_nil _).mono ?_; rintro e w' ⟨rfl, rfl⟩)
    | (go_at_call 33; with_reducible refine (stlen_calls HF.out).mono ?_; rintro e w' ⟨rfl, rfl⟩)
    | (go_at_call 34; with_reducible refine (HR.out _ (Touch.refl _ _)).mono ?_; rintro e wr ⟨rfl, hTr⟩))
  go_ret
  exact ⟨rfl, HT2.out.trans hTr⟩

theorem strefuses_calls (a s z : Int) (ha : a ≤ 9223372036854775807) (hs : s ≤ 9223372036854775807) (w : World) : Calls Try.prog 6 #[.int .i64 a, .int .i64 s, .int .i64 z] w fun e w' => e = .returned (.bool true) ∧ Touch (fun _ => False) w w' := by
  by_cases h1 : s < 1
  · exact stref_arg a s z h1 w
  by_cases h2 : a < 0
  · exact stref_neg a s z h1 h2 w
  by_cases h3 : 8 < a
  · exact stref_far1 a s z h1 hs h3 w
  by_cases h4 : 8 - a < s
  · exact stref_far2 a s z h1 hs (by omega) (by omega) h4 w
  obtain ⟨a', rfl⟩ : ∃ a' : Nat, a = (a' : Int) := ⟨a.toNat, by omega⟩
  obtain ⟨s', rfl⟩ : ∃ s' : Nat, s = (s' : Int) := ⟨s.toNat, by omega⟩
  by_cases h5 : z < 0
  · exact stref_size1 a' s' z (by omega) (by omega) h5 w
  by_cases h6 : 512 < z
  · exact stref_size2 a' s' z (by omega) (by omega) h6 w
  by_cases h7 : 64 * (s' : Int) < z
  · exact stref_size3 a' s' z (by omega) (by omega) (by omega) (by omega) h7 w
  obtain ⟨z', rfl⟩ : ∃ z' : Nat, z = (z' : Int) := ⟨z.toNat, by omega⟩
  exact stref_ok a' s' z' (by omega) (by omega) (by omega) w

end Go.Proofs.Ytmcakilpdecacaa
