/- The statement LinkSpoils over the translated program. -/
import Derived.Test.YtimiiahhedpfaaaLkD
namespace Go.Proofs.Ytimiiahhedpfaaa
open Go Go.RowKit Go.Conc
set_option maxRecDepth 100000

theorem sp_min {N : Nat} {c k : Nat} (C : Int) (hC : C = (c : Nat)) (h : k = min N c) : min (N : Int) C = (k : Int) ∧ (if C < (N : Int) then C else (N : Int)) = (k : Int) ∧ (k : Int) ≤ (N : Int) ∧ (0 : Int) ≤ (k : Int) := by
  refine ⟨by omega, ?_, by omega, by omega⟩; split <;> omega

set_option maxHeartbeats 2000000 in
theorem lspoils_calls (s : ByteArray) (a : Int) (v : Nat) (ha : -9223372036854775808 ≤ a ∧ a ≤ 9223372036854775807) (hv : v < 4294967296) (w : World) :
    Calls Try.prog 8 #[.string s, .int .i64 a, .int .u32 (v : Nat)] w fun e w' => e = .returned (.bool true) ∧ Touch (fun _ => False) w w' := by
  have HA := Lib.hid ha
  clear ha
  go_enter Try.func8, Try.ntmps8
  go_wp2_with fail
  refine (speaks26_calls w).mono ?_
  rintro e w1 ⟨rfl, ht1⟩
  go_upto_region 3 with fail
  obtain ⟨k, hk⟩ : ∃ k, k = min s.size 40 := ⟨_, rfl⟩
  obtain ⟨hm1, hm2, hm3, hm4⟩ := sp_min 40 rfl hk
  obtain ⟨S, hS⟩ : ∃ S, s.extract 0 k = S := ⟨_, rfl⟩
  have hSs : S.size ≤ 40 := by rw [← hS]; simp; omega
  clear hk
  go_upto_region 4 with fail
  clear hm1 hm2 hm3 hm4 hS
  go_wp2_with fail
  refine (lknew_calls w1).mono ?_
  rintro e w2 ⟨p, c, rfl, h2, hp, ht2⟩
  go_wp2_with fail
  refine (put_room h2 1 (by omega) S (by decide)).mono ?_
  rintro e w3 ⟨rfl, h3, ht3⟩
  go_wp2_with fail
  refine (put_room h3 1 (by omega) ⟨#[98, 101, 104, 105, 110, 100]⟩ (by show 1 < 64; omega)).mono ?_
  rintro e w4 ⟨rfl, h4, ht4⟩
  go_wp2_with fail
  refine (spoil_calls h4 1 (by omega) (t := S) (l := [⟨#[98, 101, 104, 105, 110, 100]⟩]) rfl (by omega) a v HA.out hv).mono ?_
  rintro e w5 ⟨rfl, h5, ht5⟩
  go_wp2_with fail
  refine (spoil_calls h5 1 (by omega) (t := turnT S a v) (l := [⟨#[98, 101, 104, 105, 110, 100]⟩]) rfl (by rw [turnT_size]; omega) a v HA.out hv).mono ?_
  rintro e w6 ⟨rfl, h6, ht6⟩
  rw [turnT_twice] at h6
  go_wp2_with fail
  refine (take_some h6 1 (by omega) (t := S) (l := [⟨#[98, 101, 104, 105, 110, 100]⟩]) rfl).mono ?_
  rintro e w7 ⟨rfl, h7, ht7⟩
  go_wp2_with fail
  refine (take_some h7 1 (by omega) (t := ⟨#[98, 101, 104, 105, 110, 100]⟩) (l := []) rfl).mono ?_
  rintro e w8 ⟨rfl, h8, ht8⟩
  go_wp2_with fail
  go_ret
  exact ⟨rfl, (ht1.trans ht2).trans' (((((ht3.trans ht4).trans ht5).trans ht6).trans ht7).trans ht8) (fun i e => Or.inr (by rw [e]; exact Nat.le_trans ht1.size (hp.2 1 (by omega))))⟩
end Go.Proofs.Ytimiiahhedpfaaa
