
/- Contract of package canon's Next over the translated program. -/
import Derived.Test.YtoaeffinjpkahaaDoorCanG
import Derived.Deep.RegionHeld3
namespace Go.Proofs.YtoaeffinjpkahaaDoor
set_option linter.unusedSimpArgs false
set_option linter.unusedVariables false
open Go Go.RowKit
set_option maxRecDepth 100000
variable {φ : TypeId × (Nat → Option Value)}

theorem i64_or_nat (a b : Nat) (ha : a < 4611686018427387904) (hb : b < 4611686018427387904) : bits .or .i64 (a : Int) (b : Int) = ((a ||| b : Nat) : Int) := by
  have hx : a ||| b < 2 ^ 62 := Nat.or_lt_two_pow (by omega) (by omega)
  show IntKind.i64.wrap ((BitVec.ofInt 64 (a : Int) ||| BitVec.ofInt 64 (b : Int)).toNat : Int) = _
  rw [BitVec.toNat_or, ofInt_u64 a (by omega), ofInt_u64 b (by omega), IntKind.wrap_i64]
  omega
theorem past_val (p x : Nat) (hp : p < 65536) (hx : x < 2) : bits .or .i64 ((p : Int) * 2) (x : Int) = ((2 * p + x : Nat) : Int) := by
  rw [show (p : Int) * 2 = ((p * 2 : Nat) : Int) by simp, i64_or_nat _ _ (by omega) (by omega)]
  have h := Nat.two_pow_add_eq_or_of_lt (i := 1) (b := x) (by omega) p
  rw [show p * 2 = 2 ^ 1 * p by omega, ← h]

/-- A symbol's word begins some bits. -/
def FoundAt (ls l : List Nat) (s : Nat) : Prop := s < ls.length ∧ ls.getD s 0 ≠ 0 ∧ ls.getD s 0 ≤ l.length ∧ l.take (ls.getD s 0) = wordH (ls.getD s 0) (codeN ls s)
/-- Some bits are the beginning of a word that is longer. -/
def ComesAt (ls l : List Nat) : Prop := ∃ s, s < ls.length ∧ ls.getD s 0 ≠ 0 ∧ l.length < ls.getD s 0 ∧ (wordH (ls.getD s 0) (codeN ls s)).take l.length = l
/-- A code neither of too many words nor of too few, but where it has just one, of one bit, or none. -/
def WholeN (ls : List Nat) : Prop := kraftN ls = 32768 ∨ kraftN ls = 0 ∨ kraftN ls = 16384 ∧ cntN ls 1 = 1

theorem none_found (ls l : List Nat) (h15 : ∀ x ∈ ls, x ≤ 15) (hk : kraftN ls ≤ 32768) (h2 : ∀ x ∈ l, x < 2) (n : Nat) (hn : n ≤ 15) (hnl : n ≤ l.length)
    (hv : firstN ls n + cntN ls n ≤ valH (l.take n)) (s : Nat) (hs : ls.getD s 0 ≤ n) : ¬ FoundAt ls l s := by
  rintro ⟨h1, h0, hle, ht⟩
  have hb : (l.take n).length = n := by rw [List.length_take]; omega
  have hb2 : ∀ x ∈ l.take n, x < 2 := fun x hx => h2 x (List.mem_of_mem_take hx)
  have hc := code_fits ls s h1 h0 h15 hk
  have h3 := (begins_iff (l.take n) hb2 (ls.getD s 0) (codeN ls s) (by omega) hc).1 (by rw [List.take_take, Nat.min_eq_left hs]; exact ht)
  rw [hb] at h3
  have h4 := code_end ls s h1 h0 (by omega)
  have h5 := below_mono ls (show ls.getD s 0 + 1 ≤ n + 1 by omega)
  have h6 := first_add ls n hn (first_below ls n hn)
  have h7 : (firstN ls n + cntN ls n) * 2 ^ (15 - n) ≤ valH (l.take n) * 2 ^ (15 - n) := Nat.mul_le_mul_right _ hv
  have h8 : valH (l.take n) < (codeN ls s + 1) * 2 ^ (n - ls.getD s 0) := (Nat.div_lt_iff_lt_mul (Nat.two_pow_pos _)).1 (by omega)
  have h9 : valH (l.take n) * 2 ^ (15 - n) < (codeN ls s + 1) * 2 ^ (n - ls.getD s 0) * 2 ^ (15 - n) := (Nat.mul_lt_mul_right (Nat.two_pow_pos _)).2 h8
  rw [Nat.mul_assoc, ← Nat.pow_add, show n - ls.getD s 0 + (15 - n) = 15 - ls.getD s 0 by omega] at h9
  omega

theorem long_ge (f : Nat → Nat) (k n : Nat) (hn : n < k) (h : 0 < f n) : n ≤ longN f k := by
  induction k with
  | zero => omega
  | succ k ih =>
    rw [longN]
    by_cases hk : 0 < f k
    · rw [if_pos hk]; omega
    · rw [if_neg hk]
      by_cases e : n = k
      · subst e; exact absurd h hk
      · exact ih (by omega)
theorem long_le (f : Nat → Nat) (k : Nat) : longN f k ≤ k - 1 := by
  induction k with
  | zero => simp [longN]
  | succ k ih =>
    rw [longN]
    split <;> omega
theorem long_has (f : Nat → Nat) (k : Nat) : longN f k = 0 ∨ 0 < f (longN f k) := by
  induction k with
  | zero => simp [longN]
  | succ k ih =>
    rw [longN]
    split
    · right; assumption
    · exact ih
theorem len_le_long (ls : List Nat) (h15 : ∀ x ∈ ls, x ≤ 15) (s : Nat) (hs : s < ls.length) (h0 : ls.getD s 0 ≠ 0) : ls.getD s 0 ≤ longN (cntN ls) 16 := by
  have h1 := mem_15 ls h15 s hs
  refine long_ge _ 16 _ (by omega) ?_
  unfold cntN
  rw [if_neg h0]
  have := count_split ls s hs
  omega

theorem cnt_pos (ls : List Nat) (m : Nat) (hm : m ≠ 0) : cntN ls m = ls.count m := by unfold cntN; rw [if_neg hm]
theorem kraft_mem (ls : List Nat) (x : Nat) (h : x ∈ ls) : shareN x ≤ kraftN ls := by
  induction ls with
  | nil => cases h
  | cons y ls ih =>
    have e : kraftN (y :: ls) = shareN y + kraftN ls := by simp [kraftN]
    rw [e]
    rcases List.mem_cons.1 h with rfl | h
    · omega
    · have := ih h; omega
theorem comes_whole (ls l : List Nat) (h15 : ∀ x ∈ ls, x ≤ 15) (hw : WholeN ls) (h2 : ∀ x ∈ l, x < 2) (hlt : l.length < longN (cntN ls) 16) (hnone : ∀ s, ¬ FoundAt ls l s) : ComesAt ls l := by
  have hll := long_le (cntN ls) 16
  have hkl : kraftN ls ≤ 32768 := by rcases hw with h | h | ⟨h, _⟩ <;> omega
  rcases hw with hk | hk | ⟨hk, h1⟩
  · have hb := valH_lt l h2
    have h3 : valH l * 2 ^ (15 - l.length) < kraftN ls := by
      rw [hk]
      have : valH l * 2 ^ (15 - l.length) < 2 ^ l.length * 2 ^ (15 - l.length) := (Nat.mul_lt_mul_right (Nat.two_pow_pos _)).2 hb
      rw [← Nat.pow_add, show l.length + (15 - l.length) = 15 by omega] at this
      exact this
    obtain ⟨s, hs, h0, h4⟩ := some_comes ls h15 l (by omega) h3
    have hc := code_fits ls s hs h0 h15 hkl
    rcases h4 with ⟨h5, h6⟩ | ⟨h5, h6⟩
    · exact absurd ⟨hs, h0, h5, (begins_iff l h2 _ _ h5 hc).2 h6⟩ (hnone s)
    · exact ⟨s, hs, h0, h5, (comes_iff l h2 _ _ (by omega) hc).2 h6⟩
  · rcases long_has (cntN ls) 16 with h | h
    · omega
    · have h3 := cnt_pos ls (longN (cntN ls) 16) (by omega)
      obtain ⟨s, k1, k2, _⟩ := nth_of_count ls (longN (cntN ls) 16) 0 (by omega)
      have h4 : 1 ≤ shareN ls[s] := by
        have e : ls.getD s 0 = ls[s] := by simp [k1]
        unfold shareN
        rw [if_neg (by rw [← e, k2]; omega)]
        exact Nat.two_pow_pos _
      have h5 := kraft_mem ls ls[s] (List.getElem_mem k1)
      omega
  · have h3 : cntN ls 1 = ls.count 1 := rfl
    obtain ⟨s, k1, k2, _⟩ := nth_of_count ls 1 0 (by omega)
    have hl1 : longN (cntN ls) 16 ≤ 1 := by
      rcases long_has (cntN ls) 16 with h | h
      · omega
      · apply Classical.byContradiction
        intro hgt
        have h6 := cnt_pos ls (longN (cntN ls) 16) (by omega)
        obtain ⟨t, t1, t2, _⟩ := nth_of_count ls (longN (cntN ls) 16) 0 (by omega)
        have hts : t ≠ s := fun e => by subst e; omega
        have h7 := code_end ls t t1 (by omega) (by omega)
        have h8 := below_mono ls (show ls.getD t 0 + 1 ≤ 16 by omega)
        rw [← kraft_below ls h15] at h8
        have h9 := code_ge ls t (by omega)
        have h10 := code_end ls s k1 (by omega) (by omega)
        have h11 := below_mono ls (show ls.getD s 0 + 1 ≤ ls.getD t 0 by omega)
        rw [k2] at h10
        have h12 : (codeN ls s + 1) * 2 ^ 14 ≤ codeN ls t * 2 ^ (15 - ls.getD t 0) := by
          have e : 15 - 1 = 14 := rfl
          rw [e] at h10
          rw [k2] at h11
          omega
        have h13 := Nat.two_pow_pos (15 - ls.getD t 0)
        rw [Nat.add_mul, Nat.one_mul] at h7
        have h14 : 2 ^ 14 ≤ (codeN ls s + 1) * 2 ^ 14 := Nat.le_mul_of_pos_left _ (by omega)
        omega
    refine ⟨s, k1, by omega, by omega, ?_⟩
    have : l = [] := List.eq_nil_of_length_eq_zero (by omega)
    subst this
    simp

set_option maxHeartbeats 1000000 in
theorem next_calls (b n0 n1 : Nat) (ls : List Nat) (rb ro : Nat) (l : List Nat) (row : Option Nat) (w : World) (hC : CodeAt w b ls n0 n1) (hw : WholeN ls) (hR : RdAt φ w rb ro l row) (h2 : ∀ x ∈ l, x < 2) (hl : l.length < 562949953421312)
    (hap : ¬ (n0 ≤ rb ∧ rb < n1)) :
    Calls Tryd.prog 126 #[.pointer (some ⟨b, 0, none⟩), .pointer (some ⟨rb, ro, none⟩)] w fun e w' =>
      (∃ s, FoundAt ls l s ∧ e = .returned (.tuple #[.int .i64 (s : Nat), .int .i64 0]) ∧ RdAt φ w' rb ro (l.drop (ls.getD s 0)) row ∧ Touch (fun k => k = rb) w w') ∨
      ((∀ s, ¬ FoundAt ls l s) ∧ ComesAt ls l ∧ e = .returned (.tuple #[.int .i64 0, .int .i64 2]) ∧ RdAt φ w' rb ro l row ∧ Touch (fun _ => False) w w') ∨
      ((∀ s, ¬ FoundAt ls l s) ∧ ¬ ComesAt ls l ∧ e = .returned (.tuple #[.int .i64 0, .int .i64 4]) ∧ RdAt φ w' rb ro l row ∧ Touch (fun _ => False) w w') := by
  have hC0 := Lib.hid hC
  obtain ⟨⟨vl, g, q, os, h1, _, _, h4, h5, _, hg0, hg1, _, _⟩, h15, hln, hk, hb0, hb1⟩ := hC
  have hbr : b ≠ rb := fun e => hap ⟨by omega, by omega⟩
  have hgr : g ≠ rb := fun e => hap ⟨by omega, by omega⟩
  clear hg0 hg1 hb0 hb1 hap
  have hll := long_le (cntN ls) 16
  have hlgL := Lib.hid (len_le_long ls h15)
  obtain ⟨lg, hlg⟩ : ∃ lg, lg = longN (cntN ls) 16 := ⟨_, rfl⟩
  have e19 := h1.c19
  rw [← hlg] at e19 hll
  have HLG := Lib.hid hlg
  clear hlg
  obtain ⟨sz, hsz⟩ : ∃ sz, sz = min lg l.length := ⟨_, rfl⟩
  have hsz1 : sz ≤ l.length := by omega
  have hsz2 : sz ≤ 15 := by omega
  have hszd : (sz = lg ∧ lg ≤ l.length) ∨ (sz = l.length ∧ l.length < lg) := by omega
  have hleft := Lib.hid (fun W (h : RdAt φ W rb ro l row) => left_calls rb ro l row W h hl)
  have hpeek := Lib.hid (fun W (h : RdAt φ W rb ro l row) => peek_some rb ro sz l row W h hl (by omega) hsz1)
  have HR := Lib.hid hR
  have H1 := Lib.hid h1
  have H4 := Lib.hid h4
  have H5 := Lib.hid h5
  have H15 := Lib.hid h15
  have HK := Lib.hid hk
  have HW := Lib.hid hw
  have H2 := Lib.hid h2
  clear h1 h4 h5 h15 hk hw h2 hR
  have hmin : (if l.length < lg then (l.length : Int) else (lg : Int)) = (sz : Int) := by split <;> omega
  have hmin' : RowKit.Hid (sz = min lg l.length) := hsz
  clear hsz hszd
  go_enter Tryd.func126, Tryd.ntmps126
  go_wp2_with fail
  go_region_held3 (fun W => W.cell? ⟨b, 19, none⟩ = some (.int .i64 (lg : Nat))) (go_keep) (first | (go_at_call 65; refine (hleft.out _ (by first | exact HR.out | exact HR.out.kept (Touch.refl (fun _ => False) _).drew id (fun _ _ => id))).mono ?_; rintro e w3 ⟨rfl, rfl⟩))
  clear hmin
  have HR2 := Lib.hid (HR.out.kept ((Touch.refl (fun _ => False) w).drew.drew) id (fun _ _ => id))
  have HT2 := Lib.hid ((Touch.refl (fun _ => False) w).drew.drew)
  generalize w.drew.drew = w4 at HR2 HT2 ⊢
  go_wp2_with fail
  refine (hpeek.out w4 HR2.out).mono ?_
  rintro e w5 ⟨rfl, ht5⟩
  have HR5 := Lib.hid (HR2.out.kept ht5 id (fun _ _ => id))
  have HT5 := Lib.hid (HT2.out.trans ht5)
  clear ht5 hpeek hleft HR2 HT2 HR e19
  have HCC := Lib.hid (fun n hn => HT5.out.cell (H1.out.cc n hn) id)
  have H18 := Lib.hid (HT5.out.cell H1.out.c18 id)
  have H19 := Lib.hid (HT5.out.cell H1.out.c19 id)
  have HOS := Lib.hid (fun s (hs : s < ls.length) (h0 : ls.getD s 0 ≠ 0) => (Row.cells (H4.out.kept HT5.out (fun _ _ => id))).2 (posN ls s) (.int .i64 (s : Nat)) (by simp [intVs, H5.out s hs h0]))
  have HSL := Lib.hid (start_le ls)
  rw [← HLG.out] at H19
  clear H1 H4 H5
  go_wp2_with fail
  go_loopw [4, 5, 7, 9, 10, 11] (fun r1 r2 x p a i wr => r1 = .int .i64 0 ∧ r2 = .int .i64 0 ∧ ∃ n V P A : Nat, 1 ≤ n ∧ n ≤ sz + 1 ∧ i = .int .i64 n ∧ x = .int .u64 V ∧ p = .int .i64 P ∧ a = .int .i64 A ∧ RowKit.Hid (V = numN ((l.take sz).drop (n - 1))) ∧ RowKit.Hid (valH (l.take (n - 1)) = P + firstN ls (n - 1) + cntN ls (n - 1)) ∧ RowKit.Hid (A = startN ls n) ∧ wr = w5) (fun _ _ _ _ _ i _ => sz + 1 - (intOf i).toNat)
  case atStart => exact ⟨by first | rfl | trivial, by first | rfl | trivial, 1, _, 0, 0, by omega, by omega, rfl, rfl, rfl, rfl, Lib.hid (by simp), Lib.hid (by rfl), Lib.hid rfl, rfl⟩
  case round =>
    obtain ⟨rfl, rfl, n, V, P, A, hn1, hn2, rfl, rfl, rfl, rfl, HV, HP, HA, rfl⟩ := hrel
    by_cases hlt : n ≤ sz
    · have hnl : n - 1 < l.length := by omega
      obtain ⟨x, hx⟩ : ∃ x, x = l[n - 1] := ⟨_, rfl⟩
      have hx2 : x < 2 := by rw [hx]; exact H2.out _ (List.getElem_mem _)
      have hVd : V = 2 * numN ((l.take sz).drop n) + x := by
        have h3 : n - 1 < (l.take sz).length := by rw [List.length_take]; omega
        have h4 := List.drop_eq_getElem_cons h3
        rw [show n - 1 + 1 = n by omega] at h4
        rw [HV.out, h4, numN_snoc_front, hx]
        simp
      have hVb : V < 65536 := by
        rw [HV.out]
        have h3 := numN_lt ((l.take sz).drop (n - 1)) (fun y hy => H2.out y (List.mem_of_mem_take (List.mem_of_mem_drop hy)))
        exact Nat.lt_of_lt_of_le h3 (Nat.le_trans (Nat.pow_le_pow_right (by decide) (show _ ≤ 15 by rw [List.length_drop, List.length_take]; omega)) (by decide))
      have hPb : P < 32768 := by
        have h3 := valH_lt (l.take (n - 1)) (fun y hy => H2.out y (List.mem_of_mem_take hy))
        rw [HP.out] at h3
        have h4 : 2 ^ (l.take (n - 1)).length ≤ 2 ^ 15 := Nat.pow_le_pow_right (by decide) (by rw [List.length_take]; omega)
        omega
      have hval : valH (l.take n) = 2 * valH (l.take (n - 1)) + x := by
        have h3 := List.take_succ_eq_append_getElem hnl
        rw [show n - 1 + 1 = n by omega] at h3
        rw [h3, valH_snoc, hx]
      have hF : firstN ls n = 2 * (firstN ls (n - 1) + cntN ls (n - 1)) := by
        rw [show n = (n - 1) + 1 by omega, firstN]; rfl
      have HP2 := Lib.hid (show valH (l.take n) = (2 * P + x) + firstN ls n by rw [hval, HP.out, hF]; omega)
      have hand1 : bits .and .u64 (V : Int) 1 = (x : Int) := by
        rw [show (1 : Int) = ((1 : Nat) : Int) from rfl, u64_and_nat V 1 (by omega) (by decide), Nat.and_one_is_mod]
        omega
      have hor := past_val P x (by omega) hx2
      have HVN := Lib.hid (show V / 2 = numN ((l.take sz).drop n) by omega)
      have hcc := HCC.out n (by omega)
      have HCN := Lib.hid (show startN ls (n + 1) = A + cntN ls n by rw [startN, HA.out])
      have HCP := Lib.hid (cnt_pos ls n (by omega))
      have hsA := HSL.out (n + 1)
      rw [HCN.out] at hsA
      obtain ⟨c, hc⟩ : ∃ c, c = cntN ls n := ⟨_, rfl⟩
      rw [← hc] at hcc hsA
      obtain ⟨Q, hQ⟩ : ∃ Q, Q = 2 * P + x := ⟨_, rfl⟩
      rw [← hQ] at hor
      have HC := Lib.hid hc
      have HQ := Lib.hid hQ
      have HX := Lib.hid hx
      have hQb : Q < 65536 + 2 := by omega
      clear hx hVd hval hF hc hQ
      by_cases hfound : Q < c
      · obtain ⟨s, s1, s2, s3⟩ := nth_of_count ls n Q (by rw [← HCP.out, ← HC.out]; exact hfound)
        have hfit := code_fits ls s s1 (by omega) H15.out HK.out
        have hcode : codeN ls s = valH (l.take n) := by unfold codeN; rw [s2, s3, HP2.out, HQ.out]; omega
        have HFD := Lib.hid (show FoundAt ls l s from ⟨s1, by omega, by omega, by
          rw [s2, hcode]
          have h3 := wordH_valH (l.take n) (fun y hy => H2.out y (List.mem_of_mem_take hy))
          rw [List.length_take, Nat.min_eq_left (by omega)] at h3
          exact h3.symm⟩)
        have hpos : posN ls s = A + Q := by unfold posN; rw [s2, s3, HA.out]
        have hos := HOS.out s s1 (by omega)
        rw [hpos, Nat.zero_add] at hos
        have h18 := H18.out
        have hplt := pos_lt ls s s1 (by omega) (by omega)
        rw [hpos] at hplt
        have hread := Lib.hid (read_some rb ro n l row wr HR5.out hl (by omega) (by omega))
        have S2 := Lib.hid s2
        obtain ⟨R, hR⟩ : ∃ R, R = A + Q := ⟨_, rfl⟩
        rw [← hR] at hos hplt
        have hAQ : (A : Int) + (Q : Int) = (R : Int) := by omega
        have HRR := Lib.hid hR
        clear hR
        generalize startN ls 16 = T at h18 hplt
        clear s3 hcode hpos hfit
        go_wp2_with fail
        refine hread.out.mono ?_
        rintro e w6 ⟨rfl, hR6, ht6⟩
        have h18' := ht6.cell h18 hbr
        have hos' := ht6.cell hos hgr
        have HR6 := Lib.hid hR6
        have HT6 := Lib.hid ht6
        clear h18 hos hR6 ht6 hread
        go_wp2_with fail
        go_ret2
        refine .inl ⟨s, HFD.out, rfl, ?_, (HT5.out.mono (fun _ h => h.elim)).trans HT6.out⟩
        rw [S2.out]
        exact HR6.out
      · go_wp2_with fail
        go_roundw
        case rel =>
          refine ⟨by first | rfl | trivial, by first | rfl | trivial, n + 1, V / 2, Q - c, A + c, by omega, by omega, by go_num, by go_num, ?_, by go_num, Lib.hid (by rw [HVN.out]; rfl), Lib.hid ?_, Lib.hid (by rw [HCN.out, HC.out]), by first | rfl | trivial⟩
          · rw [show ((Q - c : Nat) : Int) = (Q : Int) - (c : Int) by omega]
          · rw [show n + 1 - 1 = n by omega, HP2.out, ← HC.out, ← HQ.out]; omega
        case measure => simp [intOf]; omega
    · obtain rfl : n = sz + 1 := by omega
      have hnf : ∀ s, ¬ FoundAt ls l s := fun s hf => by
        have h3 := hlgL.out s hf.1 hf.2.1
        have h4 := hf.2.2.1
        have h5 := hmin'.out
        rw [← HLG.out] at h3
        refine none_found ls l H15.out HK.out H2.out sz hsz2 hsz1 ?_ s (by omega) hf
        have h6 := HP.out
        rw [show sz + 1 - 1 = sz by omega] at h6
        omega
      have HNF := Lib.hid hnf
      have h19 := H19.out
      have HM := Lib.hid hmin'.out
      clear hnf
      by_cases hmore : sz < lg
      · have hcm := Lib.hid (comes_whole ls l H15.out HW.out H2.out (by rw [← HLG.out]; have := HM.out; omega) HNF.out)
        go_wp2_with fail
        go_ret2
        exact .inr (.inl ⟨HNF.out, hcm.out, rfl, HR5.out, HT5.out⟩)
      · have hnc : RowKit.Hid (¬ ComesAt ls l) := fun ⟨s, s1, s2, s3, _⟩ => by
          have h3 := hlgL.out s s1 s2
          have h5 := HM.out
          rw [← HLG.out] at h3
          omega
        go_wp2_with fail
        go_ret2
        exact .inr (.inr ⟨HNF.out, hnc.out, rfl, HR5.out, HT5.out⟩)
end Go.Proofs.YtoaeffinjpkahaaDoor
