/- The walk of layer 12's statement which texts may be names. -/
import Derived.Test.YthnjpapfombhnaaDoorNamJ
namespace Go.Proofs.YthnjpapfombhnaaDoor
open Go Go.RowKit
set_option maxRecDepth 100000

set_option maxHeartbeats 4000000 in
theorem checks_calls (s dir : ByteArray) (w : World) (hs : s.size ≤ 9223372036854775807) (hd : dir.size ≤ 9223372036854775807) (hT : Tabs w) : Calls Tryd.prog 3 #[.string s, .string dir] w fun e w' => e = .returned (.bool true) ∧ Touch (fun _ => False) w w' := by
  obtain ⟨k, hk⟩ : ∃ k, k = min s.size 2000 := ⟨_, rfl⟩
  obtain ⟨m, hm⟩ : ∃ m, m = min dir.size 200 := ⟨_, rfl⟩
  obtain ⟨S, hS⟩ : ∃ S, s.extract 0 k = S := ⟨_, rfl⟩
  obtain ⟨D, hD⟩ : ∃ D, dir.extract 0 m = D := ⟨_, rfl⟩
  have hk1 : min (s.size : Int) 2000 = (k : Int) := by omega
  have hm1 : min (dir.size : Int) 200 = (m : Int) := by omega
  have hk3 : (if (2000 : Int) < (s.size : Int) then (2000 : Int) else (s.size : Int)) = (k : Int) := by split <;> omega
  have hm3 : (if (200 : Int) < (dir.size : Int) then (200 : Int) else (dir.size : Int)) = (m : Int) := by split <;> omega
  have hk2 : (k : Int) ≤ (s.size : Int) := by omega
  have hm2 : (m : Int) ≤ (dir.size : Int) := by omega
  have hk0 : (0 : Int) ≤ (k : Int) := by omega
  have hm0 : (0 : Int) ≤ (m : Int) := by omega
  have hSs : S.size ≤ 2000 := by rw [← hS]; simp; omega
  have hDs : D.size ≤ 200 := by rw [← hD]; simp; omega
  have HSP := Lib.hid (speaks12_calls w hT)
  have HC := Lib.hid (fun W (h : Tabs W) => check_calls S W (by omega) h)
  have HR := Lib.hid (fun W => refCheck_calls S W (by omega))
  have HP := Lib.hid (fun W => plain_calls S W (by omega))
  have HB := Lib.hid (fun W => below_calls S D W (by omega) (by omega))
  have HB2 := Lib.hid (fun W => refBelow_calls S D W (by omega) (by omega))
  generalize belowB S D = B at HB HB2
  generalize hcb : checkB S = cb at HC HR
  clear hcb
  generalize hpb : plainB S.data.toList = pb at HP
  have HPB := Lib.hid hpb
  clear hk hm hpb
  go_enter Tryd.func3, Tryd.ntmps3
  go_wp2_with fail
  refine HSP.out.mono ?_
  rintro e w1 ⟨rfl, ht⟩
  have HT := Lib.hid ht
  clear ht
  go_wp2_with fail
  go_quiet (fail)
  have hsS : (S.size : Int) ≤ 2000 := by omega
  clear hk1 hm1 hk3 hm3 hk2 hm2 hk0 hm0 hS hD HSP
  go_wp2
  go_loop [5, 6] (fun p i => ∃ q : Nat, q ≤ S.size ∧ i = .int .i64 (q : Int) ∧ p = .bool (plainB (S.data.toList.take q))) (fun _ i => S.size - (intOf i).toNat)
  case atStart => exact ⟨0, Nat.zero_le _, rfl, rfl⟩
  case round =>
    obtain ⟨q, hq, rfl, rfl⟩ := hrel
    by_cases hlt : q < S.size
    · have hlt' : (q : Int) < (S.size : Int) := by omega
      have HS : RowKit.Hid (plainB (S.data.toList.take (q + 1)) = (plainB (S.data.toList.take q) && decide ((S[q].toNat : Int) < 128))) := Lib.hid (by
        rw [take_snoc S q hlt]
        have hcast : decide (S[q].toNat < 128) = decide ((S[q].toNat : Int) < 128) := by simp only [decide_eq_decide]; omega
        unfold plainB
        simp only [List.all_append, List.all_cons, List.all_nil, Bool.and_true]
        rw [hcast])
      obtain ⟨b, hb⟩ : ∃ b, plainB (S.data.toList.take q) = b := ⟨_, rfl⟩
      rw [hb] at HS ⊢
      clear hb
      cases b
      · go_wp2
        go_round
        case rel => exact ⟨q + 1, by omega, by go_num, by rw [HS.out]; rfl⟩
        case measure => simp [intOf]; omega
      · go_wp2
        go_round
        case rel => exact ⟨q + 1, by omega, by go_num, by rw [HS.out]; simp⟩
        case measure => simp [intOf]; omega
    · obtain rfl : q = S.size := by omega
      have he : plainB (S.data.toList.take S.size) = pb := by
        rw [List.take_of_length_le (by simp)]; exact HPB.out
      rw [he]
      clear he HPB
      cases cb
      · simp only [Bool.false_eq_true, if_false] at HC
        go_wp2_with (first
          | (go_at_call 13; refine (HC.out _ (hT.kept HT3.out)).mono ?_; rintro e w4 ⟨rfl, ht4⟩; have HT4 := Lib.hid (HT3.out.trans ht4); clear ht4)
          | (go_at_call 13; refine (HC.out _ (hT.kept HT2.out)).mono ?_; rintro e w3 ⟨rfl, ht3⟩; have HT3 := Lib.hid (HT2.out.trans ht3); clear ht3)
          | (go_at_call 13; refine (HC.out _ (hT.kept (HT.out.drewN _))).mono ?_; rintro e w2 ⟨rfl, ht2⟩; have HT2 := Lib.hid ((HT.out.drewN _).trans ht2); clear ht2)
          | (go_at_call 14; refine (HR.out _).mono ?_; rintro e w5 ⟨rfl, rfl⟩)
          | (go_at_call 15; refine (HP.out _).mono ?_; rintro e w6 ⟨rfl, rfl⟩)
          | (go_at_call 16; refine (HB.out _).mono ?_; rintro e w7 ⟨rfl, rfl⟩)
          | (go_at_call 17; refine (HB2.out _).mono ?_; rintro e w8 ⟨rfl, rfl⟩))
        go_ret
        exact ⟨ret_bool (by simp), HT4.out⟩
      · simp only [if_true] at HC
        go_wp2_with (first
          | (go_at_call 13; refine (HC.out _ (hT.kept HT2.out)).mono ?_; rintro e w3 ⟨rfl, ht3⟩; have HT3 := Lib.hid (HT2.out.trans ht3); clear ht3)
          | (go_at_call 13; refine (HC.out _ (hT.kept (HT.out.drewN _))).mono ?_; rintro e w2 ⟨rfl, ht2⟩; have HT2 := Lib.hid ((HT.out.drewN _).trans ht2); clear ht2)
          | (go_at_call 14; refine (HR.out _).mono ?_; rintro e w5 ⟨rfl, rfl⟩)
          | (go_at_call 15; refine (HP.out _).mono ?_; rintro e w6 ⟨rfl, rfl⟩)
          | (go_at_call 16; refine (HB.out _).mono ?_; rintro e w7 ⟨rfl, rfl⟩)
          | (go_at_call 17; refine (HB2.out _).mono ?_; rintro e w8 ⟨rfl, rfl⟩))
        go_ret
        exact ⟨ret_bool (by simp), HT3.out⟩
end Go.Proofs.YthnjpapfombhnaaDoor
