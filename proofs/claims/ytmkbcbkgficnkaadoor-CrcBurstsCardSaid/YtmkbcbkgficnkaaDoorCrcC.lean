/- Contracts of the check's functions over the translated program: sums at once, products, noughts, joins. -/
import Derived.Test.YtmkbcbkgficnkaaDoorCrcB
namespace Go.Proofs.YtmkbcbkgficnkaaDoor
open Go Go.RowKit

theorem sum_calls (b : Nat) (s : ByteArray) (w : World) (ht : TabAt w b) (hz : s.size ≤ 9223372036854775807) :
    Calls Tryd.prog 8 #[.pointer (some ⟨b, 0, none⟩), .string s] w fun e w' => e = .returned (.int .u32 (moreN 0 s.data.toList)) ∧ ∃ nq, w' = w.drewN nq := by
  go_enter Tryd.func8, Tryd.ntmps8
  go_wp2_with fail
  refine (tmore_calls b 0 s _ ht (by decide) hz).mono ?_
  rintro e w' ⟨rfl, nq, hT⟩
  have HT := Lib.hid hT
  clear hT
  go_wp2_with fail
  go_ret
  exact ⟨rfl, nq, HT.out⟩

theorem top_bit (a k : Nat) (hk : k < 32) : (a : Int) * 2 ^ k % 4294967296 / 2147483648 = ((a / 2 ^ (31 - k) % 2 : Nat) : Int) := by
  have e1 : (4294967296 : Nat) = 2 ^ (31 - k) * 2 * 2 ^ k := by rw [← Nat.pow_succ, ← Nat.pow_add, show (31 - k).succ + k = 32 by omega]
  have e2 : (2147483648 : Nat) = 2 ^ (31 - k) * 2 ^ k := by rw [← Nat.pow_add, show 31 - k + k = 31 by omega]
  have e3 : a * 2 ^ k % 4294967296 / 2147483648 = a / 2 ^ (31 - k) % 2 := by
    rw [e1, e2, Nat.mul_mod_mul_right, Nat.mul_div_mul_right _ _ (Nat.two_pow_pos k), Nat.mod_mul_right_div_self]
  rw [← e3]
  simp
theorem timesK_lt (k a b : Nat) (hb : b < 4294967296) : timesK k a b < 4294967296 := by
  induction k with
  | zero => simp [timesK]
  | succ k ih =>
    simp only [timesK]
    exact Nat.xor_lt_two_pow (n := 32) ih (by split; exact Tn_lt k b hb; decide)

set_option maxHeartbeats 400000 in
theorem times_calls (a b : Nat) (w : World) (_ha : a < 4294967296) (hb : b < 4294967296) :
    Calls Tryd.prog 15 #[.int .u32 a, .int .u32 b] w fun e w' => e = .returned (.int .u32 (timesK 32 a b)) ∧ w = w' := by
  go_enter Tryd.func15, Tryd.ntmps15
  go_wp2_with fail
  go_loop [1, 5, 7] (fun x p i => ∃ k m q : Nat, k ≤ 32 ∧ m = Tn k b ∧ q = timesK k a b ∧ q < 4294967296 ∧ x = .int .u32 m ∧ p = .int .u32 q ∧ i = .int .i64 k) (fun _ _ i => 32 - (intOf i).toNat)
  case atStart => exact ⟨0, b, 0, Nat.zero_le _, rfl, by simp [timesK], by decide, rfl, rfl, rfl⟩
  case round =>
    obtain ⟨k, m, q, hk, hm, hq, hql, rfl, rfl, rfl⟩ := hrel
    have hml : m < 4294967296 := by rw [hm]; exact Tn_lt k b hb
    have HM := Lib.hid hm
    have HQ := Lib.hid hq
    clear hm hq
    by_cases hlt : k < 32
    · have hq2 := Lib.hid (timesK_lt (k + 1) a b hb)
      have hstep := Lib.hid (show timesK (k + 1) a b = timesK k a b ^^^ (if a / 2 ^ (31 - k) % 2 = 1 then Tn k b else 0) from rfl)
      have htop := top_bit a k hlt
      by_cases hbit : a / 2 ^ (31 - k) % 2 = 1
      · rw [hbit] at htop
        have hx := u32_xor_nat q m hql hml
        have HB := Lib.hid hbit
        have hdec : (((a : Int) * 2 ^ k % 4294967296 / 2147483648) == 1) = true := by rw [htop]; rfl
        clear hbit htop
        go_wp2_with fail
        refine (turn_calls m _ hml).mono ?_
        rintro e w' ⟨rfl, rfl⟩
        go_wp2_with fail
        go_round
        case rel => exact ⟨k + 1, _, _, by omega, by rw [Tn_succ, HM.out], by rw [hstep.out, if_pos HB.out, HQ.out, HM.out], by rw [HQ.out, HM.out]; have := hq2.out; rw [hstep.out, if_pos HB.out] at this; exact this, rfl, rfl, by go_num⟩
        case measure => simp [intOf]; omega
      · rw [show a / 2 ^ (31 - k) % 2 = 0 by omega] at htop
        have HB := Lib.hid hbit
        have hdec : (((a : Int) * 2 ^ k % 4294967296 / 2147483648) == 1) = false := by rw [htop]; rfl
        clear hbit htop
        go_wp2_with fail
        refine (turn_calls m _ hml).mono ?_
        rintro e w' ⟨rfl, rfl⟩
        go_wp2_with fail
        go_round
        case rel => exact ⟨k + 1, _, q, by omega, by rw [Tn_succ, HM.out], by rw [hstep.out, if_neg HB.out, HQ.out, Nat.xor_zero], hql, rfl, rfl, by go_num⟩
        case measure => simp [intOf]; omega
    · obtain rfl : k = 32 := by omega
      go_wp2_with fail
      go_ret
      exact ⟨ret1 (val_u32 (by rw [HQ.out])), rfl⟩

def powL : List Nat := [8388608, 32768, 3988292384, 2984685714, 2691310871, 3982654894, 2295415911, 3619421802, 3963911953, 2390663536, 1680310286, 1296546528, 167662735, 2206543119, 808857370, 2069535939, 838779241, 2683044394, 1821240772, 366380877, 1608415822, 3134787127, 776888047, 1319870996, 2829349568, 1117427358, 344797226, 3289097936, 3303156796, 1073741824, 536870912, 134217728]
def PowAt (w : World) : Prop := ∀ k, k < 32 → w.cell? ⟨0, k, none⟩ = some (.int .u32 (powL.getD k 0 : Nat))

theorem pow_step (k p p' : Nat) (h : p = Tn (8 * 2 ^ k) one31) (hp : p < 4294967296) (h2 : timesK 32 p p = p') : p' = Tn (8 * 2 ^ (k + 1)) one31 := by
  rw [← h2]
  have h3 := times_turns p (8 * 2 ^ k) hp
  rw [← h] at h3
  rw [h3, show 8 * 2 ^ (k + 1) = 8 * 2 ^ k + 8 * 2 ^ k by rw [Nat.pow_succ]; omega, Tn_add, ← h]
theorem pow_turns (k : Nat) (hk : k < 10) : powL.getD k 0 = Tn (8 * 2 ^ k) one31 := by
  have p0 : 8388608 = Tn (8 * 2 ^ 0) one31 := by decide +kernel
  have p1 := pow_step 0 _ 32768 p0 (by decide) (by decide +kernel)
  have p2 := pow_step 1 _ 3988292384 p1 (by decide) (by decide +kernel)
  have p3 := pow_step 2 _ 2984685714 p2 (by decide) (by decide +kernel)
  have p4 := pow_step 3 _ 2691310871 p3 (by decide) (by decide +kernel)
  have p5 := pow_step 4 _ 3982654894 p4 (by decide) (by decide +kernel)
  have p6 := pow_step 5 _ 2295415911 p5 (by decide) (by decide +kernel)
  have p7 := pow_step 6 _ 3619421802 p6 (by decide) (by decide +kernel)
  have p8 := pow_step 7 _ 3963911953 p7 (by decide) (by decide +kernel)
  have p9 := pow_step 8 _ 2390663536 p8 (by decide) (by decide +kernel)
  match k, hk with
  | 0, _ => exact p0
  | 1, _ => exact p1
  | 2, _ => exact p2
  | 3, _ => exact p3
  | 4, _ => exact p4
  | 5, _ => exact p5
  | 6, _ => exact p6
  | 7, _ => exact p7
  | 8, _ => exact p8
  | 9, _ => exact p9
theorem bit_u64 (n k : Nat) (hn : n ≤ 1000) : bits .and .u64 ((n : Int) / 2 ^ k) 1 = ((n / 2 ^ k % 2 : Nat) : Int) := by
  rw [show (n : Int) / 2 ^ k = ((n / 2 ^ k : Nat) : Int) by simp, show (1 : Int) = ((1 : Nat) : Int) from rfl, u64_and_nat _ 1 (Nat.lt_of_le_of_lt (Nat.div_le_self _ _) (by omega)) (by decide), Nat.and_one_is_mod]
theorem mod_step (n k : Nat) : n % 2 ^ (k + 1) = n % 2 ^ k + 2 ^ k * (n / 2 ^ k % 2) := by
  rw [Nat.pow_succ, Nat.mod_mul]

set_option maxHeartbeats 400000 in
theorem noughts_calls (sum n : Nat) (w : World) (hp : PowAt w) (hs : sum < 4294967296) (hn : n ≤ 1000) :
    Calls Tryd.prog 13 #[.int .u32 sum, .int .i64 n] w fun e w' => e = .returned (.int .u32 (flip (Tn (8 * n) (flip sum)))) ∧ w = w' := by
  have hfl := flip_lt sum hs
  have hfb := flip_bits sum hs
  have hmod : (n : Int) % 4294967295 = (n : Int) := by omega
  go_enter Tryd.func13, Tryd.ntmps13
  go_wp2_with fail
  go_loop [5, 16] (fun x i => ∃ k m : Nat, k ≤ 32 ∧ m = Tn (8 * (n % 2 ^ k)) (flip sum) ∧ x = .int .u32 m ∧ i = .int .i64 k) (fun _ i => 32 - (intOf i).toNat)
  case atStart => exact ⟨0, flip sum, Nat.zero_le _, by rw [Nat.pow_zero, Nat.mod_one]; rfl, rfl, rfl⟩
  case round =>
    clear hfb
    obtain ⟨k, m, hk, hm, rfl, rfl⟩ := hrel
    have hml : m < 4294967296 := by rw [hm]; exact Tn_lt _ _ hfl
    have HM := Lib.hid hm
    clear hm
    by_cases hlt : k < 32
    · obtain ⟨q, hq⟩ : ∃ q, q = powL.getD k 0 := ⟨_, rfl⟩
      have hcell := hp k hlt
      rw [← hq] at hcell
      have HQ := Lib.hid hq
      clear hq
      have hb := bit_u64 n k hn
      have HMS := Lib.hid (mod_step n k)
      by_cases hbit : n / 2 ^ k % 2 = 1
      · rw [hbit] at hb
        have hk10 : k < 10 := by
          rcases Nat.lt_or_ge k 10 with h | h
          · exact h
          · have : 2 ^ 10 ≤ 2 ^ k := Nat.pow_le_pow_right (by decide) h
            rw [Nat.div_eq_of_lt (by omega)] at hbit
            cases hbit
        have HQ2 := Lib.hid (HQ.out.trans (pow_turns k hk10))
        have hql : q < 4294967296 := by rw [HQ2.out]; exact Tn_lt _ _ (by decide)
        have HB := Lib.hid hbit
        clear hbit
        go_wp2_with fail
        refine (times_calls m q _ hml hql).mono ?_
        rintro e w' ⟨rfl, rfl⟩
        go_wp2_with fail
        go_round
        case rel => exact ⟨k + 1, _, by omega, by rw [HQ2.out, times_turns m _ hml, HMS.out, HB.out, HM.out, ← Tn_add]; congr 1; omega, rfl, by go_num⟩
        case measure => simp [intOf]; omega
      · rw [show n / 2 ^ k % 2 = 0 by omega] at hb
        have HB := Lib.hid (show n / 2 ^ k % 2 = 0 by omega)
        clear hbit
        go_wp2_with fail
        go_round
        case rel => exact ⟨k + 1, m, by omega, by rw [HMS.out, HB.out, HM.out]; congr 1, rfl, by go_num⟩
        case measure => simp [intOf]; omega
    · obtain rfl : k = 32 := by omega
      have hF := flip_bits m hml
      go_wp2_with fail
      go_ret
      exact ⟨ret1 (val_u32 (by rw [HM.out, Nat.mod_eq_of_lt (by omega)])), rfl⟩

set_option maxHeartbeats 400000 in
theorem join_calls (a b n : Nat) (w : World) (hp : PowAt w) (ha : a < 4294967296) (hb : b < 4294967296) (hn : n ≤ 1000) :
    Calls Tryd.prog 12 #[.int .u32 a, .int .u32 b, .int .i64 n] w fun e w' => e = .returned (.int .u32 (flip (Tn (8 * n) (flip a)) ^^^ flip (Tn (8 * n) (flip 0)) ^^^ b : Nat)) ∧ w = w' := by
  have h1 : flip (Tn (8 * n) (flip a)) < 4294967296 := flip_lt _ (Tn_lt _ _ (flip_lt _ ha))
  have h2 : flip (Tn (8 * n) (flip 0)) < 4294967296 := flip_lt _ (Tn_lt _ _ (flip_lt _ (by decide)))
  have HN1 := Lib.hid (noughts_calls a n w hp ha hn)
  have HN2 := Lib.hid (noughts_calls 0 n w hp (by decide) hn)
  generalize flip (Tn (8 * n) (flip a)) = u at h1 HN1 ⊢
  generalize flip (Tn (8 * n) (flip 0)) = v at h2 HN2 ⊢
  have hx1 := u32_xor_nat u v h1 h2
  have hx2 := u32_xor_nat (u ^^^ v) b (Nat.xor_lt_two_pow (n := 32) h1 h2) hb
  go_enter Tryd.func12, Tryd.ntmps12
  go_wp2_with fail
  refine HN1.out.mono ?_
  rintro e w' ⟨rfl, rfl⟩
  go_wp2_with fail
  refine HN2.out.mono ?_
  rintro e w' ⟨rfl, rfl⟩
  go_wp2_with fail
  go_ret
  exact ⟨rfl, rfl⟩

end Go.Proofs.YtmkbcbkgficnkaaDoor
