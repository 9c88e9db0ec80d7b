/- The statements TimerNone and TimerBounds over the translated program. -/
import Derived.Test.YtjlpggffbmcmnaaTmA
import Derived.Test.YtjlpggffbmcmnaaBase
import Derived.Carry
namespace Go.Proofs.Ytjlpggffbmcmnaa
open Go Go.RowKit
set_option maxRecDepth 100000

theorem tret_bool {a b : Bool} (h : a = b) : Ending.returned (.bool a) = .returned (.bool b) := by rw [h]
theorem i64_mask (k : Nat) (hk : k ≤ 62) (m : Int) (hm : m = 2 ^ k - 1) (n : Int) : bits .and .i64 n m = n % 2 ^ k := by
  have h62 : 2 ^ k ≤ 2 ^ 62 := Nat.pow_le_pow_right (by decide) hk
  have hpos : 0 < 2 ^ k := Nat.pow_pos (by decide)
  have hm' : m = ((2 ^ k - 1 : Nat) : Int) := by rw [hm]; have : ((2 : Int) ^ k) = ((2 ^ k : Nat) : Int) := by norm_cast
                                                 rw [this]; omega
  have hkk : (BitVec.ofInt 64 m).toNat = 2 ^ k - 1 := by rw [hm', BitVec.toNat_ofInt]; omega
  have key : (BitVec.ofInt 64 n &&& BitVec.ofInt 64 m).toNat = (n % ((2 ^ 64 : Nat) : Int)).toNat % 2 ^ k := by
    rw [BitVec.toNat_and, BitVec.toNat_ofInt, hkk, Nat.and_two_pow_sub_one_eq_mod]
  show IntKind.i64.wrap ((BitVec.ofInt 64 n &&& BitVec.ofInt 64 m).toNat : Nat) = n % 2 ^ k
  have hd : ((2 ^ k : Nat) : Int) ∣ ((2 ^ 64 : Nat) : Int) := Int.natCast_dvd_natCast.2 (Nat.pow_dvd_pow 2 (by omega))
  have hlt : (n % ((2 ^ 64 : Nat) : Int)).toNat % 2 ^ k < 2 ^ k := Nat.mod_lt _ hpos
  have e : (((n % ((2 ^ 64 : Nat) : Int)).toNat % 2 ^ k : Nat) : Int) = n % ((2 ^ k : Nat) : Int) := by
    rw [Int.natCast_emod, Int.toNat_of_nonneg (Int.emod_nonneg _ (by decide)), Int.emod_emod_of_dvd _ hd]
  rw [key, IntWalk.i64_in _ (by omega), e]
  norm_cast

theorem tm_still {w w' : World} {b fi mo wa le : Nat} (h : TmAt w b fi mo wa le) (ht : Touch (fun _ => False) w w') : TmAt w' b fi mo wa le := h.kept ht id

set_option maxHeartbeats 1000000 in
theorem speaks23_calls (w : World) : Calls Try.prog 10 #[] w fun e w' => e = .returned (.bool true) ∧ Touch (fun _ => False) w w' := by
  go_enter Try.func10, Try.ntmps10
  go_wp2_with fail
  refine (tnew_calls 1 4 w).mono ?_
  rintro e w1 ⟨b, rfl, h1, hb, ht1⟩
  have h1 : TmAt w1 b 1 4 1 0 := h1
  go_wp2_with fail
  refine (tstart_calls h1).mono ?_
  rintro e w2 ⟨rfl, h2, ht2⟩
  go_wp2_with fail
  refine (ttick_calls h2 (by omega) (by omega) (by omega)).mono ?_
  rintro e w3 ⟨rfl, h3, ht3⟩
  have h3 : TmAt w3 b 1 4 2 2 := h3
  go_wp2_with fail
  refine (ttick_calls h3 (by omega) (by omega) (by omega)).mono ?_
  rintro e w4 ⟨rfl, h4, ht4⟩
  have h4 : TmAt w4 b 1 4 2 1 := h4
  go_wp2_with fail
  refine (ttick_calls h4 (by omega) (by omega) (by omega)).mono ?_
  rintro e w5 ⟨rfl, h5, ht5⟩
  have h5 : TmAt w5 b 1 4 4 4 := h5
  go_wp2_with fail
  refine (twait_calls h5).mono ?_
  rintro e w' ⟨rfl, rfl⟩
  go_wp2_with fail
  refine (ton_calls h5).mono ?_
  rintro e w' ⟨rfl, rfl⟩
  go_wp2_with fail
  go_ret
  exact ⟨rfl, ht1.trans' (((ht2.trans ht3).trans ht4).trans ht5) (fun i e => .inr (by omega))⟩

set_option maxHeartbeats 2000000 in
theorem tnone_calls (a b : Int) (w : World) : Calls Try.prog 5 #[.int .i64 a, .int .i64 b] w fun e w' => e = .returned (.bool true) ∧ Touch (fun _ => False) w w' := by
  have hf : (fiT a : Int) = min (max a 1) 64 := by unfold fiT; omega
  have HF := Lib.hid hf
  have HW := Lib.hid (fiT_hi a)
  have HM := Lib.hid (moT_hi a b)
  clear hf
  go_enter Try.func5, Try.ntmps5
  go_wp2_with fail
  refine (speaks23_calls w).mono ?_
  rintro e w1 ⟨rfl, ht1⟩
  have HT1 := Lib.hid ht1
  clear ht1
  go_wp2_with fail
  refine (tstart_nil _).mono ?_
  rintro e w' ⟨rfl, rfl⟩
  go_wp2_with fail
  refine (tstop_nil _).mono ?_
  rintro e w' ⟨rfl, rfl⟩
  go_wp2_with fail
  refine (treset_nil _).mono ?_
  rintro e w' ⟨rfl, rfl⟩
  go_wp2_with fail
  refine (tnew_calls a b _).mono ?_
  rintro e w2 ⟨tb, rfl, h2, hlt, ht2⟩
  generalize fiT a = f at *
  generalize moT a b = m at *
  have HT2 := Lib.hid ht2
  have H2 := Lib.hid h2
  clear ht2 h2
  go_wp2_with fail
  refine (ttick_nil _).mono ?_
  rintro e w' ⟨rfl, rfl⟩
  go_wp2_with fail
  refine (twait_nil _).mono ?_
  rintro e w' ⟨rfl, rfl⟩
  go_wp2_with fail
  refine (ton_nil _).mono ?_
  rintro e w' ⟨rfl, rfl⟩
  go_wp2_with fail
  refine (ton_calls H2.out).mono ?_
  rintro e w' ⟨rfl, rfl⟩
  go_wp2_with fail
  refine (ttick_calls H2.out HM.out HW.out (by omega)).mono ?_
  rintro e w3 ⟨rfl, h3, ht3⟩
  have H3 : Hid (TmAt w3 tb f m f 0) := Lib.hid h3
  have HT3 := Lib.hid ht3
  clear h3 ht3
  go_wp2_with fail
  refine (ttick_calls H3.out HM.out HW.out (by omega)).mono ?_
  rintro e w4 ⟨rfl, h4, ht4⟩
  have H4 : Hid (TmAt w4 tb f m f 0) := Lib.hid h4
  have HT4 := Lib.hid ht4
  clear h4 ht4
  go_wp2_with fail
  refine (twait_calls H4.out).mono ?_
  rintro e w' ⟨rfl, rfl⟩
  go_wp2_with fail
  all_goals
    go_ret
    refine ⟨tret_bool ?_, (HT1.out.trans (HT2.out.trans' (HT3.out.trans HT4.out) fun i e => .inr (by omega)))⟩
    have := HF.out
    exact beq_iff_eq.2 (by omega)
theorem tick_sum {mo wa le s : Nat} (h1 : 1 ≤ le) (hs : s + le ≤ mo) (_hw : wa ≤ mo) : (if le = 1 then 0 else s + 1) + tickL mo wa le ≤ mo := by
  unfold tickL; split <;> omega
theorem tickL_lo {mo wa le : Nat} (h1 : 1 ≤ le) (hw : 1 ≤ wa) (hm : 1 ≤ mo) : 1 ≤ tickL mo wa le := by unfold tickL; split <;> omega

set_option maxHeartbeats 2000000 in
theorem tbounds_calls (a b n : Int) (w : World) : Calls Try.prog 4 #[.int .i64 a, .int .i64 b, .int .i64 n] w fun e w' => e = .returned (.bool true) ∧ Touch (fun _ => False) w w' := by
  obtain ⟨q, hq⟩ : ∃ q : Nat, n % 1024 = (q : Int) := ⟨(n % 1024).toNat, by omega⟩
  have hand : bits .and .i64 n 1023 = (q : Int) := by rw [i64_mask 10 (by omega) 1023 (by decide) n, ← hq]; rfl
  have hq2 : q < 1024 := by omega
  clear hq
  obtain ⟨x1, hx1⟩ : ∃ x, max a 1 = x := ⟨_, rfl⟩
  obtain ⟨f, hf⟩ : ∃ f, fiT a = f := ⟨_, rfl⟩
  obtain ⟨m, hm⟩ : ∃ m, moT a b = m := ⟨_, rfl⟩
  obtain ⟨x3, hx3⟩ : ∃ x, max b (f : Int) = x := ⟨_, rfl⟩
  have hf1 := fiT_lo a
  have hm1 := moT_lo a b
  have hm2 := moT_hi a b
  have hx2 : min x1 64 = (f : Int) := by rw [← hf, ← hx1]; unfold fiT; omega
  have hx4 : min x3 64 = (m : Int) := by rw [← hm, ← hx3, ← hf]; unfold moT; omega
  have HN := Lib.hid (fun W => tnew_calls a b W)
  rw [hf, hm] at HN
  rw [hm] at hm1 hm2
  rw [hf] at hm1 hf1
  have y1 : (if a ≤ 1 then 1 else a) = x1 := by rw [← hx1]; split <;> omega
  have y1' : (if a < 1 then 1 else a) = x1 := by rw [← hx1]; split <;> omega
  have y1'' : (if 1 < a then a else 1) = x1 := by rw [← hx1]; split <;> omega
  have y2 : (if x1 < 64 then x1 else 64) = (f : Int) := by rw [← hx2]; split <;> omega
  have y2' : (if 64 < x1 then 64 else x1) = (f : Int) := by rw [← hx2]; split <;> omega
  have y3 : (if b < (f : Int) then (f : Int) else b) = x3 := by rw [← hx3]; split <;> omega
  have y3' : (if (f : Int) < b then b else (f : Int)) = x3 := by rw [← hx3]; split <;> omega
  have y4 : (if x3 < 64 then x3 else 64) = (m : Int) := by rw [← hx4]; split <;> omega
  have y4' : (if 64 < x3 then 64 else x3) = (m : Int) := by rw [← hx4]; split <;> omega
  clear hf hm
  go_enter Try.func4, Try.ntmps4
  go_wp2_with fail
  refine (speaks23_calls w).mono ?_
  rintro e w1 ⟨rfl, ht1⟩
  go_wp2_with fail
  refine (HN.out w1).mono ?_
  rintro e w2 ⟨tb, rfl, h2, hlt, ht2⟩
  go_wp2_with fail
  refine (tstart_calls h2).mono ?_
  rintro e w3 ⟨rfl, h3, ht3⟩
  have HT : Hid (Touch (fun _ => False) w w3) := Lib.hid (ht1.trans (ht2.trans' ht3 fun i e => .inr (by omega)))
  have HS : Hid (w.heap.size ≤ tb) := Lib.hid (Nat.le_trans ht1.size hlt)
  have H3 := Lib.hid h3
  clear h2 h3 ht1 ht2 ht3 hlt HN
  go_upto_region 6 with fail
  clear hx1 hx2 hx3 hx4 y1 y1' y1'' y2 y2' y3 y3' y4 y4'
  go_wp2_with fail
  go_loopw [9, 10] (fun s i wr => ∃ (k sn wa le : Nat), i = .int .i64 (k : Nat) ∧ s = .int .i64 (sn : Nat) ∧ k ≤ q ∧ 1 ≤ le ∧ 1 ≤ wa ∧ wa ≤ m ∧ sn + le ≤ m ∧ RowKit.Hid (TmAt wr tb f m wa le) ∧ RowKit.Hid (Touch (fun j => j = tb) w3 wr)) (fun _ i _ => q - (intOf i).toNat)
  case atStart => exact ⟨0, 0, f, f, rfl, rfl, Nat.zero_le _, hf1, hf1, hm1, by omega, H3, Lib.hid (Touch.refl _ _)⟩
  case round =>
    obtain ⟨k, sn, wa, le, rfl, rfl, hk, hl1, hw1, hw2, hsl, HB, HT4⟩ := hrel
    by_cases hlt : k < q
    · have hltI : (k : Int) < (q : Int) := by omega
      have hs64 : sn < 64 := by omega
      go_wp2_with fail
      refine (ttick_calls HB.out (by omega) (by omega) (by omega)).mono ?_
      rintro e w5 ⟨rfl, h5, ht5⟩
      have HB5 := Lib.hid h5
      have HT5 : Hid (Touch (fun j => j = tb) w3 w5) := Lib.hid (HT4.out.trans ht5)
      have k1 := tick_sum (mo := m) (wa := wa) (s := sn) hl1 hsl hw2
      have k2 := tickL_lo (mo := m) (le := le) hl1 hw1 (by omega)
      have k3 := tickW_le (mo := m) (le := le) hw2
      have k4 := tickW_lo (mo := m) (le := le) hw1 (by omega)
      generalize tickW m wa le = wa' at *
      generalize tickL m wa le = le' at *
      clear h5 ht5 HB HT4
      have hon : decide (0 < le') = true := decide_eq_true (by omega)
      have hw64 : (wa' : Int) ≤ (m : Int) := by omega
      have hw0 : (1 : Int) ≤ (wa' : Int) := by omega
      by_cases hl : le = 1
      · rw [if_pos hl] at k1
        rw [decide_eq_true hl]
        have hm0 : (0 : Int) < (m : Int) := by omega
        go_wp2_with (first
          | (go_at_call 18; refine (twait_calls HB5.out).mono ?_; rintro e w' ⟨rfl, rfl⟩)
          | (go_at_call 19; refine (ton_calls HB5.out).mono ?_; rintro e w' ⟨rfl, rfl⟩))
        go_roundw
        case rel => exact ⟨k + 1, 0, wa', le', by go_num, rfl, by omega, k2, k4, k3, k1, HB5, HT5⟩
        case measure => simp [intOf]; omega
      · rw [if_neg hl] at k1
        rw [decide_eq_false hl]
        have hm0 : (sn : Int) + 1 < (m : Int) := by omega
        go_wp2_with (first
          | (go_at_call 18; refine (twait_calls HB5.out).mono ?_; rintro e w' ⟨rfl, rfl⟩)
          | (go_at_call 19; refine (ton_calls HB5.out).mono ?_; rintro e w' ⟨rfl, rfl⟩))
        go_roundw
        case rel => exact ⟨k + 1, sn + 1, wa', le', by go_num, by go_num, by omega, k2, k4, k3, k1, HB5, HT5⟩
        case measure => simp [intOf]; omega
    · have hltI : ¬ (k : Int) < (q : Int) := by omega
      go_wp2_with fail
      go_ret
      exact ⟨rfl, HT.out.trans' HT4.out fun i e => .inr (by have := HS.out; omega)⟩
end Go.Proofs.Ytjlpggffbmcmnaa
