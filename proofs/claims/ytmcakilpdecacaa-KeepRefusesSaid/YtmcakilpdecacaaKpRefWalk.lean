/- The statement KeepRefuses over the translated program. -/
import Derived.Test.YtmcakilpdecacaaKpH
namespace Go.Proofs.Ytmcakilpdecacaa
open Go Go.RowKit Go.Maps
set_option maxRecDepth 100000

theorem st_and15 (n : Int) : bits .and .i64 n 15 = n % 16 := by
  have hk : (BitVec.ofInt 64 15).toNat = 2 ^ 4 - 1 := by decide
  have key : (BitVec.ofInt 64 n &&& BitVec.ofInt 64 15).toNat = (n % ((2 ^ 64 : Nat) : Int)).toNat % 2 ^ 4 := by
    rw [BitVec.toNat_and, BitVec.toNat_ofInt, hk, Nat.and_two_pow_sub_one_eq_mod]
  show IntKind.i64.wrap ((BitVec.ofInt 64 n &&& BitVec.ofInt 64 15).toNat : Nat) = n % 16
  rw [key, IntKind.wrap_i64]
  omega

set_option maxHeartbeats 1000000 in
theorem kref_small (n : Nat) (z : Int) (hz : z % 16 = ((n - 1 : Nat) : Int)) (h1 : 1 ≤ n) (hn : n < 9) (w : World) : Calls Try.prog 9 #[.int .i64 z] w fun e w' => e = .returned (.bool true) ∧ Touch (fun _ => False) w w' := by
  obtain ⟨r, hr⟩ : ∃ r : Nat, n - 1 = r := ⟨_, rfl⟩
  have h15 : bits .and .i64 z 15 = (r : Int) := by rw [st_and15, hz, hr]
  have hrI : (1 : Int) + (r : Int) = (n : Int) := by omega
  have hwn : IntKind.i64.wrap (n : Int) = (n : Int) := IntWalk.i64_in _ (by omega)
  have d9 : decide (9 ≤ (n : Int)) = false := decide_eq_false (by omega)
  have d9n : decide (9 ≤ n) = false := decide_eq_false (by omega)
  clear hr hz
  go_enter Try.func9, Try.ntmps9
  go_wp2_with fail
  refine (speaks20_calls w).mono ?_
  rintro e w0 ⟨rfl, hT0⟩
  go_wp2_with fail
  refine (new_calls n w0 (by omega) (by omega)).mono ?_
  rintro e w1 ⟨b, lb, mb, rfl, hD1, hN, hT1⟩
  have HD1 := Lib.hid hD1
  have HT1 := Lib.hid (hT0.trans hT1)
  clear hD1 hN hT0 hT1
  go_wp2_with fail
  refine (kopen_small HD1.out hn).mono ?_
  rintro e w' ⟨rfl, rfl⟩
  have HT2 := HT1
  go_wp2_with (first
    | (go_at_call 40; with_reducible refine (kopen_nil _).mono ?_; rintro e w' ⟨rfl, rfl⟩)
    | (go_at_call 43; with_reducible refine (kread_nil _ _ _).mono ?_; rintro e w' ⟨rfl, rfl⟩)
    | (go_at_call 44; with_reducible refine (kstart_nil _).mono ?_; rintro e w' ⟨rfl, rfl⟩)
    | (go_at_call 45; with_reducible refine (kbegin_nil _ _).mono ?_; rintro e w3 ⟨rfl, hT3⟩; have HT3 := Lib.hid (HT2.out.trans hT3); clear hT3)
    | (go_at_call 41; with_reducible refine (kappend_nil _ _).mono ?_; rintro e w4 ⟨rfl, hT4⟩; have HT4 := Lib.hid (HT3.out.trans hT4); clear hT4)
    | (go_at_call 46; with_reducible refine (kcommit_nil _).mono ?_; rintro e w' ⟨rfl, rfl⟩)
    | (go_at_call 47; with_reducible refine (kroom_nil _).mono ?_; rintro e w' ⟨rfl, rfl⟩)
    | (go_at_call 48; with_reducible refine (kstate_nil _).mono ?_; rintro e w5 ⟨rfl, hT5⟩; have HT5 := Lib.hid (HT4.out.trans hT5); clear hT5; unfold stV))
  go_ret
  exact ⟨rfl, HT5.out⟩

set_option maxHeartbeats 1000000 in
theorem kref_big (n : Nat) (z : Int) (hz : z % 16 = ((n - 1 : Nat) : Int)) (h1 : 1 ≤ n) (hn : 9 ≤ n ∧ n ≤ 16) (w : World) : Calls Try.prog 9 #[.int .i64 z] w fun e w' => e = .returned (.bool true) ∧ Touch (fun _ => False) w w' := by
  obtain ⟨r, hr⟩ : ∃ r : Nat, n - 1 = r := ⟨_, rfl⟩
  have h15 : bits .and .i64 z 15 = (r : Int) := by rw [st_and15, hz, hr]
  have hrI : (1 : Int) + (r : Int) = (n : Int) := by omega
  have hwn : IntKind.i64.wrap (n : Int) = (n : Int) := IntWalk.i64_in _ (by omega)
  have d9 : decide (9 ≤ (n : Int)) = true := decide_eq_true (by omega)
  have d9n : decide (9 ≤ n) = true := decide_eq_true (by omega)
  clear hr hz
  go_enter Try.func9, Try.ntmps9
  go_wp2_with fail
  refine (speaks20_calls w).mono ?_
  rintro e w0 ⟨rfl, hT0⟩
  go_wp2_with fail
  refine (new_calls n w0 (by omega) (by omega)).mono ?_
  rintro e w1 ⟨b, lb, mb, rfl, hD1, hN, hT1⟩
  have HD1 := Lib.hid hD1
  have HT1 := Lib.hid (hT0.trans hT1)
  clear hD1 hN hT0 hT1
  go_wp2_with fail
  refine (kopen_fresh HD1.out hn.1).mono ?_
  rintro e w2 ⟨gb, fb, kb, rfl, _, _, hT2⟩
  have HT2 := Lib.hid (HT1.out.trans hT2)
  clear hT2
  go_wp2_with (first
    | (go_at_call 40; with_reducible refine (kopen_nil _).mono ?_; rintro e w' ⟨rfl, rfl⟩)
    | (go_at_call 43; with_reducible refine (kread_nil _ _ _).mono ?_; rintro e w' ⟨rfl, rfl⟩)
    | (go_at_call 44; with_reducible refine (kstart_nil _).mono ?_; rintro e w' ⟨rfl, rfl⟩)
    | (go_at_call 45; with_reducible refine (kbegin_nil _ _).mono ?_; rintro e w3 ⟨rfl, hT3⟩; have HT3 := Lib.hid (HT2.out.trans hT3); clear hT3)
    | (go_at_call 41; with_reducible refine (kappend_nil _ _).mono ?_; rintro e w4 ⟨rfl, hT4⟩; have HT4 := Lib.hid (HT3.out.trans hT4); clear hT4)
    | (go_at_call 46; with_reducible refine (kcommit_nil _).mono ?_; rintro e w' ⟨rfl, rfl⟩)
    | (go_at_call 47; with_reducible refine (kroom_nil _).mono ?_; rintro e w' ⟨rfl, rfl⟩)
    | (go_at_call 48; with_reducible refine (kstate_nil _).mono ?_; rintro e w5 ⟨rfl, hT5⟩; have HT5 := Lib.hid (HT4.out.trans hT5); clear hT5; unfold stV))
  go_ret
  exact ⟨rfl, HT5.out⟩

theorem krefuses_calls (z : Int) (w : World) : Calls Try.prog 9 #[.int .i64 z] w fun e w' => e = .returned (.bool true) ∧ Touch (fun _ => False) w w' := by
  obtain ⟨n, hn⟩ : ∃ n : Nat, z % 16 = ((n - 1 : Nat) : Int) ∧ 1 ≤ n ∧ n ≤ 16 := ⟨(z % 16).toNat + 1, by omega⟩
  by_cases h9 : n < 9
  · exact kref_small n z hn.1 hn.2.1 h9 w
  · exact kref_big n z hn.1 hn.2.1 ⟨by omega, hn.2.2⟩ w

end Go.Proofs.Ytmcakilpdecacaa
