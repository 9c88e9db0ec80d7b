/- The statement SendTells over the translated program. -/
import Derived.Test.YtjlpggffbmcmnaaSdF
namespace Go.Proofs.Ytjlpggffbmcmnaa
open Go Go.RowKit Go.Maps Go.MapKept Go.ChangeMaps
set_option maxRecDepth 100000

theorem gret_bool {a b : Bool} (h : a = b) : Ending.returned (.bool a) = .returned (.bool b) := by rw [h]
theorem i64_and31 (n : Int) : bits .and .i64 n 31 = n % 32 := by
  have hk : (BitVec.ofInt 64 31).toNat = 2 ^ 5 - 1 := by decide
  have key : (BitVec.ofInt 64 n &&& BitVec.ofInt 64 31).toNat = (n % ((2 ^ 64 : Nat) : Int)).toNat % 2 ^ 5 := by
    rw [BitVec.toNat_and, BitVec.toNat_ofInt, hk, Nat.and_two_pow_sub_one_eq_mod]
  show IntKind.i64.wrap ((BitVec.ofInt 64 n &&& BitVec.ofInt 64 31).toNat : Nat) = n % 32
  rw [key, IntKind.wrap_i64]
  omega
/-- How many of the first k bits are set. -/
def thereK (q k : Nat) : Nat := ((List.range k).filter fun i => bitB q i).length
theorem thereK_succ (q k : Nat) : thereK q (k + 1) = thereK q k + (if bitB q k = true then 1 else 0) := by
  unfold thereK
  rw [List.range_succ, List.filter_append, List.length_append]
  by_cases h : bitB q k = true
  · rw [if_pos h]; simp [h]
  · rw [if_neg h]; simp [h]
theorem thereK_le (q k : Nat) : thereK q k ≤ k := by
  unfold thereK
  exact Nat.le_trans (List.length_filter_le _ _) (by simp)
theorem bitB_zero (k : Nat) : bitB 0 k = false := by unfold bitB; simp

/-- What is acknowledged behind the first Ack, and behind the second one. -/
theorem tell_one (sz q i : Nat) (hsz : sz ≤ 32) : ackA (fun _ => false) (0 + 0) sz q 32 i = (decide (1 ≤ i ∧ i < sz) && bitB q (i - 1)) := by
  unfold ackA
  rw [Bool.false_and, Bool.false_or]
  have : (0 + 0 + 1 ≤ i ∧ i < sz ∧ i < 0 + 0 + 1 + 32) ↔ (1 ≤ i ∧ i < sz) := by omega
  rw [decide_eq_decide.2 this]
  rfl
theorem tell_two (A : Nat → Bool) (sz i : Nat) : ackA A (0 + 0 + 1) sz 0 32 i = (A i && decide (2 ≤ i)) := by
  unfold ackA
  rw [bitB_zero, Bool.and_false, Bool.or_false]
theorem open_one (f sz q : Nat) (hsz : sz ≤ 32) (k : Nat) (hk : k + 1 ≤ sz) : (openK f (0 + 0) (ackA (fun _ => false) (0 + 0) sz q 32) (k + 1)).length + thereK q k = k + 1 := by
  induction k with
  | zero =>
    rw [openK_succ, List.length_append, tell_one sz q _ hsz]
    rfl
  | succ k ih =>
    have ih := ih (by omega)
    rw [openK_succ, List.length_append, tell_one sz q _ hsz, thereK_succ, decide_eq_true (show 1 ≤ 0 + 0 + (k + 1) ∧ 0 + 0 + (k + 1) < sz by omega), Bool.true_and, show 0 + 0 + (k + 1) - 1 = k by omega]
    by_cases h : bitB q k = true
    · rw [if_pos h, if_pos h]; simp only [List.length_nil]; omega
    · rw [if_neg h, if_neg h]; simp only [List.length_cons, List.length_nil]; omega
theorem open_two (f sz q : Nat) (A : Nat → Bool) (hA : ∀ i, A i = (decide (1 ≤ i ∧ i < sz) && bitB q (i - 1))) (k : Nat) (hk : k + 1 + 1 ≤ sz) :
    (openK f (0 + 0 + 1) (ackA A (0 + 0 + 1) sz 0 32) (k + 1)).length + thereK q (k + 1) = k + 1 + (if bitB q 0 = true then 1 else 0) := by
  induction k with
  | zero =>
    rw [openK_succ, List.length_append, tell_two, thereK_succ]
    have e : (A (0 + 0 + 1 + 0) && decide (2 ≤ 0 + 0 + 1 + 0)) = false := by rw [decide_eq_false (by omega), Bool.and_false]
    rw [e, if_neg (by decide)]
    show 0 + 1 + (0 + _) = _
    omega
  | succ k ih =>
    have ih := ih (by omega)
    rw [openK_succ, List.length_append, tell_two, thereK_succ, hA, decide_eq_true (show 1 ≤ 0 + 0 + 1 + (k + 1) ∧ 0 + 0 + 1 + (k + 1) < sz by omega), Bool.true_and, decide_eq_true (show 2 ≤ 0 + 0 + 1 + (k + 1) by omega), Bool.and_true, show 0 + 0 + 1 + (k + 1) - 1 = k + 1 by omega]
    by_cases h : bitB q (k + 1) = true
    · rw [if_pos h, if_pos h]; simp only [List.length_nil]; omega
    · rw [if_neg h, if_neg h]; simp only [List.length_cons, List.length_nil]; omega
theorem open_head (f b : Nat) (A : Nat → Bool) (hA : A b = false) (k : Nat) : (openK f b A (k + 1))[0]? = some (numU f b) := by
  induction k with
  | zero =>
    rw [openK_succ, if_neg (by rw [Nat.add_zero, hA]; decide)]
    rfl
  | succ k ih =>
    rw [openK_succ, List.getElem?_append_left (by
      rcases Nat.eq_zero_or_pos (openK f b A (k + 1)).length with h | h
      · rw [List.eq_nil_of_length_eq_zero h] at ih; cases ih
      · exact h)]
    exact ih

set_option maxHeartbeats 1000000 in
theorem stells_calls (f : Nat) (z : Int) (q : Nat) (hq : q < 4294967296) (hf : f < 4294967296) (w : World) : Calls Try.prog 9 #[.int .u32 (f : Nat), .int .i64 z, .int .u32 (q : Nat)] w fun e w' => e = .returned (.bool true) ∧ Touch (fun _ => False) w w' := by
  obtain ⟨r, hr⟩ : ∃ r : Nat, z % 32 = (r : Int) := ⟨(z % 32).toNat, by omega⟩
  have hand : bits .and .i64 z 31 = (r : Int) := by rw [i64_and31, hr]
  obtain ⟨t, ht⟩ : ∃ t : Nat, r % 31 = t := ⟨_, rfl⟩
  have ht1 : (r : Int) % 31 = (t : Int) := by omega
  have ht2 : (r : Int).tmod 31 = (t : Int) := by rw [← ht]; exact Int.ofNat_tmod r 31
  have ht31 : t ≤ 30 := by omega
  obtain ⟨sz, hsz⟩ : ∃ sz, sz = t + 2 := ⟨_, rfl⟩
  have hsz2 : 2 ≤ sz := by omega
  have hsz32 : sz ≤ 32 := by omega
  clear hr ht
  go_enter Try.func9, Try.ntmps9
  go_wp2_with fail
  refine (speaks24_calls w).mono ?_
  rintro e w0 ⟨rfl, ht0⟩
  have HT0 := Lib.hid ht0
  clear ht0
  go_upto_region 4 with fail
  have hs1 : (t : Int) + 2 = (sz : Int) := by omega
  have hs2 : (2 : Int) + (t : Int) = (sz : Int) := by omega
  first | simp only [hs2] | simp only [hs1]
  clear hs1 hs2 ht1 ht2 ht31 hand hsz
  go_wp2_with fail
  refine (wnew_calls f 40 sz hf (by omega) (by omega) hsz32 w0).mono ?_
  rintro e w1 ⟨p, mb, rfl, h1, hpm, ht1⟩
  have HT1 := Lib.hid ht1
  have HP := Lib.hid hpm
  have H1 := Lib.hid h1
  clear ht1 hpm h1
  go_wp2_with fail
  refine (wfresh_calls H1.out).mono ?_
  rintro e w2 ⟨rv, rfl, _, _, h2, ht2⟩
  rw [show min (0 + sz) 40 = sz by omega] at h2
  have H2 := Lib.hid h2
  have HT2 := Lib.hid ht2
  clear h2 ht2
  go_wp2_with fail
  have hack := wack_calls H2.out 0 (by omega) q (by assumption) (by omega)
  rw [show numU f (0 + 0) = f from numU_zero hf] at hack
  refine hack.mono ?_
  rintro e w3 ⟨rfl, h3, ht3⟩
  have hA1 := fun i => tell_one sz q i hsz32
  have HO1 := Lib.hid (open_one f sz q hsz32)
  have HO2 := Lib.hid (fun k hk => open_two f sz q _ hA1 k hk)
  have HA1 := Lib.hid hA1
  have H3 := Lib.hid h3
  have HT3 := Lib.hid ht3
  clear hack hA1 h3 ht3
  generalize hAA : ackA (fun _ => false) (0 + 0) sz q 32 = A1 at *
  clear hAA
  go_wp2_with fail
  go_loopw [9, 10] (fun tv kv wr => wr = w3 ∧ ∃ k : Nat, k + 1 ≤ sz ∧ kv = .int .i64 (k : Nat) ∧ tv = .int .i64 (thereK q k : Nat)) (fun _ kv _ => sz - (intOf kv).toNat)
  case atStart => exact ⟨rfl, 0, by omega, rfl, rfl⟩
  case round =>
    obtain ⟨rfl, k, hk, rfl, rfl⟩ := hrel
    have hy : IntKind.i64.wrap ((sz : Int) - 1) = ((sz - 1 : Nat) : Int) := by rw [IntWalk.i64_in _ (by omega)]; omega
    have hle := thereK_le q k
    by_cases hlt : k + 1 < sz
    · have hltI : (k : Int) < ((sz - 1 : Nat) : Int) := by omega
      have hbv := bit_val q k
      have HNS := Lib.hid (thereK_succ q k)
      generalize thereK q k = th at *
      generalize hs1 : sz - 1 = s1 at *
      by_cases hb : bitB q k = true
      · rw [hb, if_pos rfl] at hbv HNS
        go_wp2_with fail
        go_roundw
        case rel => exact ⟨trivial, k + 1, by omega, by go_num, by rw [HNS.out]; go_num⟩
        case measure => simp [intOf]; omega
      · rw [if_neg hb] at hbv HNS
        go_wp2_with fail
        go_roundw
        case rel => exact ⟨trivial, k + 1, by omega, by go_num, by rw [HNS.out]; go_num⟩
        case measure => simp [intOf]; omega
    · have hkz : k + 1 = sz := by omega
      have hltI : ¬ (k : Int) < ((sz - 1 : Nat) : Int) := by omega
      have ho1 := HO1.out k hk
      rw [hkz] at ho1
      have ho2 := HO2.out (k - 1) (by omega)
      rw [show k - 1 + 1 = k by omega] at ho2
      have hks : k = sz - 1 := by omega
      rw [hks] at ho2 ho1 ⊢
      generalize thereK q (sz - 1) = th at *
      have HO := Lib.hid (⟨ho1, ho2⟩ : _ ∧ _)
      clear ho1 ho2 hy hle hlt hkz hltI hks hk
      go_upto_region 15 with fail
      go_wp2_with fail
      refine (wopen_calls H3.out).mono ?_
      rintro e w4 ⟨rv4, rfl, hr4, hn4, ht4⟩
      obtain ⟨a4, cap4, rfl, _, _⟩ := row_u32 hr4
      have HT4 := Lib.hid ht4
      have H4 := Lib.hid (H3.out.still ht4)
      rw [show sz - (0 + 0) = sz by omega]
      have hL1 := HO.out.1
      generalize (openK f (0 + 0) A1 sz).length = L1 at *
      have hy1 : IntKind.i64.wrap ((sz : Int) - (th : Int)) = (L1 : Int) := by rw [IntWalk.i64_in _ (by omega)]; omega
      have hy1' : (sz : Int) - (th : Int) = (L1 : Int) := by omega
      clear hr4 hn4 ht4
      go_wp2_with fail
      refine (wbase_calls H4.out).mono ?_
      rintro e w' ⟨rfl, rfl⟩
      rw [show numU f (0 + 0) = f from numU_zero hf]
      have hack := wack_calls H4.out 1 (by omega) 0 (by omega) (by omega)
      rw [show numU f (0 + 0 + 1) = (f + 1) % 4294967296 from rfl] at hack
      have e1 : ((f : Int) + 1) % 4294967296 = (((f + 1) % 4294967296 : Nat) : Int) := by omega
      have HACK := Lib.hid hack
      clear hack
      generalize hf1 : (f + 1) % 4294967296 = f1 at *
      have HF1 : Hid (numU f 1 = f1) := Lib.hid (by rw [← hf1]; rfl)
      clear hf1
      have HH := Lib.hid (open_head f (0 + 0 + 1) (ackA A1 (0 + 0 + 1) sz 0 32) (by rw [tell_two, decide_eq_false (by omega)]; simp) (sz - 2))
      have hL2 := HO.out.2
      rw [show sz - 2 + 1 = sz - 1 by omega] at HH
      generalize hA2 : ackA A1 (0 + 0 + 1) sz 0 32 = A2 at *
      clear hA2
      have hbit0 := bit_val q 0
      rw [Int.pow_zero, Int.ediv_one] at hbit0
      go_wp2_with fail
      refine HACK.out.mono ?_
      rintro e w5 ⟨rfl, h5, ht5⟩
      have H5 := Lib.hid h5
      have HT5 := Lib.hid ht5
      clear h5 ht5
      go_wp2_with fail
      refine (wopen_calls H5.out).mono ?_
      rintro e w6 ⟨rv6, rfl, hr6, hn6, ht6⟩
      rw [show sz - (0 + 0 + 1) = sz - 1 by omega] at hr6
      obtain ⟨g6, off6, cap6, rfl, hlc6, _, hcell6⟩ := row_u32_at hr6 (by
        rcases Nat.eq_zero_or_pos (openK f (0 + 0 + 1) A2 (sz - 1)).length with h | h
        · have := HH.out; rw [List.eq_nil_of_length_eq_zero h] at this; cases this
        · exact h)
      have x6 : w6.cell? ⟨g6, off6, none⟩ = some (.int .u32 (f1 : Nat)) := by
        have := hcell6 0 _ HH.out
        rw [show (0 + 0 + 1 : Nat) = 1 from rfl, HF1.out] at this
        exact this
      have HT6 := Lib.hid ht6
      have H6 := Lib.hid (H5.out.still ht6)
      have hlen : 0 < (openK f (0 + 0 + 1) A2 (sz - 1)).length := by
        rcases Nat.eq_zero_or_pos (openK f (0 + 0 + 1) A2 (sz - 1)).length with h | h
        · have := HH.out; rw [List.eq_nil_of_length_eq_zero h] at this; cases this
        · exact h
      clear hcell6 hr6 hn6 ht6 HH
      generalize (openK f (0 + 0 + 1) A2 (sz - 1)).length = L2 at *
      have hlenI : (0 : Int) < (L2 : Int) := by omega
      by_cases hb : bitB q 0 = true
      · rw [hb, if_pos rfl] at hbit0
        rw [if_pos hb] at hL2
        obtain ⟨l, rfl⟩ : ∃ l, L2 = l + 1 := ⟨L2 - 1, by omega⟩
        have e3 : (sz : Int) - 1 - (th : Int) = (l : Int) := by omega
        clear hb
        go_wp2_with fail
        refine (wbase_calls H6.out).mono ?_
        rintro e w' ⟨rfl, rfl⟩
        rw [show numU f (0 + 0 + 1) = f1 from HF1.out]
        go_wp2_with fail
        refine (wfresh_calls H6.out).mono ?_
        rintro e w7 ⟨rv7, rfl, hr7, _, _, ht7⟩
        obtain ⟨a7, cap7, rfl, _, _⟩ := row_u32 hr7
        rw [numsL_len, show min (0 + 0 + 1 + sz) 40 - sz = 1 by omega]
        have HT7 := Lib.hid ht7
        clear hr7 ht7
        go_wp2_with fail
        go_ret
        refine ⟨rfl, HT0.out.trans (HT1.out.trans' (S' := WnS p mb) (((((HT2.out.mono (fun _ e => Or.inl e)).trans HT3.out).trans (HT4.out.mono (fun _ e => e.elim))).trans (HT5.out.trans (HT6.out.mono (fun _ e => e.elim)))).trans (HT7.out.mono (fun _ e => Or.inl e))) (fun i e => Or.inr ?_))⟩
        have := HP.out
        rcases e with e | e <;> omega
      · rw [if_neg hb] at hbit0
        rw [if_neg hb] at hL2
        have e3 : (sz : Int) - 1 - (th : Int) = (L2 : Int) := by omega
        clear hb
        go_wp2_with fail
        refine (wbase_calls H6.out).mono ?_
        rintro e w' ⟨rfl, rfl⟩
        rw [show numU f (0 + 0 + 1) = f1 from HF1.out]
        go_wp2_with fail
        refine (wfresh_calls H6.out).mono ?_
        rintro e w7 ⟨rv7, rfl, hr7, _, _, ht7⟩
        obtain ⟨a7, cap7, rfl, _, _⟩ := row_u32 hr7
        rw [numsL_len, show min (0 + 0 + 1 + sz) 40 - sz = 1 by omega]
        have HT7 := Lib.hid ht7
        clear hr7 ht7
        go_wp2_with fail
        go_ret
        refine ⟨rfl, HT0.out.trans (HT1.out.trans' (S' := WnS p mb) (((((HT2.out.mono (fun _ e => Or.inl e)).trans HT3.out).trans (HT4.out.mono (fun _ e => e.elim))).trans (HT5.out.trans (HT6.out.mono (fun _ e => e.elim)))).trans (HT7.out.mono (fun _ e => Or.inl e))) (fun i e => Or.inr ?_))⟩
        have := HP.out
        rcases e with e | e <;> omega
end Go.Proofs.Ytjlpggffbmcmnaa
