/- The statement MatchTokens over the translated program. -/
import Derived.Test.YtbjkoepldccaaaaMatQ
namespace Go.Proofs.Ytbjkoepldccaaaa
open Go Go.RowKit Go.Maps
set_option maxRecDepth 100000

set_option maxHeartbeats 1000000 in
theorem mtok_out (a s : ByteArray) (n : Int) (w : World) (hn : n < 0 ∨ 9 < n) :
    Calls Try.prog 4 #[.string a, .string s, .int .i64 n] w fun e w' => e = .returned (.bool true) ∧ Touch (fun _ => False) w w' := by
  obtain ⟨k, hk⟩ : ∃ k, k = min a.size 900 := ⟨_, rfl⟩
  obtain ⟨m, hm⟩ : ∃ m, m = min s.size 900 := ⟨_, rfl⟩
  obtain ⟨A, hA⟩ : ∃ A, a.extract 0 k = A := ⟨_, rfl⟩
  obtain ⟨S, hS⟩ : ∃ S, s.extract 0 m = S := ⟨_, rfl⟩
  have hk1 : min (a.size : Int) 900 = (k : Int) := by omega
  have hm1 : min (s.size : Int) 900 = (m : Int) := by omega
  have hk3 : (if (900 : Int) < (a.size : Int) then (900 : Int) else (a.size : Int)) = (k : Int) := by split <;> omega
  have hm3 : (if (900 : Int) < (s.size : Int) then (900 : Int) else (s.size : Int)) = (m : Int) := by split <;> omega
  have hk2 : (k : Int) ≤ (a.size : Int) := by omega
  have hm2 : (m : Int) ≤ (s.size : Int) := by omega
  have hk0 : (0 : Int) ≤ (k : Int) := by omega
  have hm0 : (0 : Int) ≤ (m : Int) := by omega
  have HSP := Lib.hid (speaks8_calls w)
  have HL := Lib.hid (fun W => Tokens_out A S n W hn)
  clear hk hm
  rcases hn with hn | hn
  · go_enter Try.func4, Try.ntmps4
    go_wp2_with fail
    refine HSP.out.mono ?_
    rintro e w1 ⟨rfl, ht⟩
    have HT := Lib.hid ht
    clear ht
    go_wp2_with fail
    go_quiet (fail)
    go_wp2_with fail
    refine (HL.out _).mono ?_
    rintro e w2 ⟨rfl, ht⟩
    have HT2 := Lib.hid ((HT.out.drewN _).trans ht)
    clear ht
    go_wp2_with fail
    go_ret
    exact ⟨rfl, HT2.out⟩
  · have hn0 : ¬ n < 0 := by omega
    go_enter Try.func4, Try.ntmps4
    go_wp2_with fail
    refine HSP.out.mono ?_
    rintro e w1 ⟨rfl, ht⟩
    have HT := Lib.hid ht
    clear ht
    go_wp2_with fail
    go_quiet (fail)
    go_wp2_with fail
    refine (HL.out _).mono ?_
    rintro e w2 ⟨rfl, ht⟩
    have HT2 := Lib.hid ((HT.out.drewN _).trans ht)
    clear ht
    go_wp2_with fail
    go_ret
    exact ⟨rfl, HT2.out⟩

set_option maxHeartbeats 4000000 in
theorem mtok_in (a s : ByteArray) (lv : Nat) (w : World) (hl : lv ≤ 9) :
    Calls Try.prog 4 #[.string a, .string s, .int .i64 (lv : Nat)] w fun e w' => e = .returned (.bool true) ∧ Touch (fun _ => False) w w' := by
  obtain ⟨k, hk⟩ : ∃ k, k = min a.size 900 := ⟨_, rfl⟩
  obtain ⟨m, hm⟩ : ∃ m, m = min s.size 900 := ⟨_, rfl⟩
  obtain ⟨A, hA⟩ : ∃ A, a.extract 0 k = A := ⟨_, rfl⟩
  obtain ⟨S, hS⟩ : ∃ S, s.extract 0 m = S := ⟨_, rfl⟩
  have hk1 : min (a.size : Int) 900 = (k : Int) := by omega
  have hm1 : min (s.size : Int) 900 = (m : Int) := by omega
  have hk3 : (if (900 : Int) < (a.size : Int) then (900 : Int) else (a.size : Int)) = (k : Int) := by split <;> omega
  have hm3 : (if (900 : Int) < (s.size : Int) then (900 : Int) else (s.size : Int)) = (m : Int) := by split <;> omega
  have hk2 : (k : Int) ≤ (a.size : Int) := by omega
  have hm2 : (m : Int) ≤ (s.size : Int) := by omega
  have hk0 : (0 : Int) ≤ (k : Int) := by omega
  have hm0 : (0 : Int) ≤ (m : Int) := by omega
  have hAs : A.size ≤ 900 := by rw [← hA]; simp; omega
  have hSs : S.size ≤ 900 := by rw [← hS]; simp; omega
  have hTs : (A ++ S).size = A.size + S.size := by simp
  have HSP := Lib.hid (speaks8_calls w)
  have HL := Lib.hid (fun W => Tokens_calls A S A (A ++ S) lv W hl (by omega) (by omega) (near_self A (by omega)) rfl)
  obtain ⟨L, hL⟩ : ∃ L, L = tokL (A ++ S).data.toList A.size lv := ⟨_, rfl⟩
  have hLl : L.length ≤ S.size := by
    have := tokL_len (A ++ S).data.toList A.size lv
    rw [← hL, data_length] at this
    omega
  have HE := Lib.hid (fun v W hv => expand_calls A L v W hv (by omega) (by omega))
  have hee : expV A.size (expandL A.data.toList L) = .tuple #[.string S, .bool true] := by rw [hL]; exact exp_tokL A S lv
  rw [hee] at HE
  rw [← hL] at HL
  obtain ⟨A2, hA2⟩ : ∃ A2, (⟨#[122, 122]⟩ : ByteArray) ++ A = A2 := ⟨_, rfl⟩
  have hA2s : A2.size = A.size + 2 := by rw [← hA2, ByteArray.size_append]; show 2 + A.size = _; omega
  have HL2 := Lib.hid (fun W => Tokens_calls A2 S A2 (A2 ++ S) lv W hl (by omega) (by omega) (near_self A2 (by omega)) rfl)
  obtain ⟨L2, hL2⟩ : ∃ L2, L2 = tokL (A2 ++ S).data.toList A2.size lv := ⟨_, rfl⟩
  have hLl2 : L2.length ≤ S.size := by
    have := tokL_len (A2 ++ S).data.toList A2.size lv
    rw [← hL2, data_length] at this
    have e : (A2 ++ S).size = A2.size + S.size := by simp
    omega
  rw [← hL2] at HL2
  have HZ : RowKit.Hid (lv = 0 → ∀ (j : Nat) (t : Tok), L[j]? = some t → t.n = 0) := Lib.hid (fun h => by subst h; rw [hL]; exact tokL_zero _ _)
  have HREF := Lib.hid (fun W => refL A S (A ++ S) W (by omega) (by omega) rfl)
  have hXl : (A ++ S).data.toList.length = A.size + S.size := by rw [data_length]; exact hTs
  have HFT : RowKit.Hid (¬ lv < 9 → 0 < S.size → ∀ z d, LongestR (A ++ S).data.toList A.size (min S.size 258) z d → ∃ t r, L = t :: r ∧ 0 ≤ t.n ∧ (0 < t.n → t.n = z ∧ t.d = d) ∧ (t.n = 0 → z = 0 ∨ ∀ z2 d2, LongestR (A ++ S).data.toList (A.size + 1) (min (S.size - 1) 258) z2 d2 → z < z2)) := Lib.hid (fun h9 h0 z d hR => by
    obtain rfl : lv = 9 := by omega
    have h := first_tok (X := (A ++ S).data.toList) (fr := A.size) (z := z) (d := d) (by omega) (by rw [hXl, show A.size + S.size - A.size = S.size by omega]; exact hR)
    rw [← hL, hXl, show A.size + S.size - (A.size + 1) = S.size - 1 by omega] at h
    exact h)
  have HREF2 : RowKit.Hid (1 ≤ S.size → ∀ W, Calls Try.prog 9 #[.string (A ++ S.extract 0 1), .string (S.extract 1 S.size)] W fun e w' => (∃ z d : Nat, e = .returned (.tuple #[.int .i64 (z : Nat), .int .i64 (d : Nat)]) ∧ LongestR (A ++ S).data.toList (A.size + 1) (min (S.size - 1) 258) z d) ∧ Touch (fun _ => False) W w') := Lib.hid (fun h1 W => by
    have e1 : (A ++ S.extract 0 1).size = A.size + 1 := by simp; omega
    have e2 : (S.extract 1 S.size).size = S.size - 1 := by simp
    have h := refL (A ++ S.extract 0 1) (S.extract 1 S.size) (A ++ S) W (by omega) (by omega) (cut_one A S h1)
    rw [e1, e2] at h
    exact h)
  clear hXl
  clear hk hm hee hL hL2
  have hl0 : ¬ ((lv : Int) < 0) := by omega
  have hl9 : ¬ (9 < (lv : Int)) := by omega
  go_enter Try.func4, Try.ntmps4
  go_wp2_with fail
  refine HSP.out.mono ?_
  rintro e w1 ⟨rfl, ht⟩
  have HT := Lib.hid ht
  clear ht
  go_wp2_with fail
  go_quiet (fail)
  go_wp2_with fail
  refine (HL.out _).mono ?_
  rintro e w2 ⟨⟨v, rfl, hv, _⟩, ht⟩
  have HT2 := Lib.hid ((HT.out.drewN _).trans ht)
  have HV := Lib.hid hv
  obtain ⟨ad, cap, rfl, hc1, hc2, hcell⟩ := hv
  have HC := Lib.hid hcell
  clear ht hcell HT
  go_wp2_with fail
  refine (HE.out _ _ HV.out).mono ?_
  rintro e w3 ⟨rfl, ht⟩
  have HT3 := Lib.hid (HT2.out.trans ht)
  have HV3 := Lib.hid (HV.out.still ht)
  clear ht HT2 HV
  go_wp2_with fail
  go_loopw [11] (fun i wr => ∃ j : Nat, i = .int .i64 (j : Nat) ∧ j ≤ L.length ∧ RowKit.Hid (Touch (fun _ => False) w3 wr)) (fun i _ => L.length - (intOf i).toNat)
  case atStart => exact ⟨0, rfl, Nat.zero_le _, Lib.hid (Touch.refl _ _)⟩
  case round =>
    obtain ⟨j, rfl, hj, HT4⟩ := hrel
    by_cases hlt : j < L.length
    · have hj0 : (0 : Int) ≤ (j : Int) := by omega
      have hj1 : (j : Int) < (L.length : Int) := by omega
      by_cases hz : lv = 0
      · subst hz
        obtain ⟨t, ht⟩ : ∃ t, L[j]? = some t := ⟨_, List.getElem?_eq_getElem hlt⟩
        have hn := HZ.out rfl j t ht
        rcases HC.out with h9 | ⟨g, off, rfl, hcell⟩
        · rw [h9] at hlt; simp at hlt
        · obtain ⟨b0, b1, b2⟩ := (HV3.out.still HT4.out).form (by omega) |>.elim (fun g' h => h.elim fun off' h => h.elim fun cap' h => by
            obtain ⟨h1, h2, h3, h4⟩ := h
            cases h1
            exact h4 j t ht)
          rw [hn] at b1
          clear hcell
          go_wp2_with fail
          go_roundw
          case rel => exact ⟨j + 1, by go_num, by omega, HT4⟩
          case measure => simp [intOf]; omega
      · have hz1 : ((lv : Int) == 0) = false := beq_eq_false_iff_ne.2 (by omega)
        have hz2 : ¬ ((lv : Int) = 0) := by omega
        go_wp2_with fail
        go_roundw
        case rel => exact ⟨j + 1, by go_num, by omega, HT4⟩
        case measure => simp [intOf]; omega
    · obtain rfl : j = L.length := by omega
      have HT5 := Lib.hid (HT3.out.trans HT4.out)
      have HV5 := Lib.hid (HV3.out.still HT4.out)
      clear HT3 HT4 HV3 HZ HE
      go_wp2_with fail
      refine (HL2.out _).mono ?_
      rintro e w6 ⟨⟨v2, rfl, hv2, _⟩, ht⟩
      obtain ⟨ad2, cap2, rfl, hd1, hd2, _⟩ := hv2
      have HT6 := Lib.hid (HT5.out.trans ht)
      have HV6 := Lib.hid (HV5.out.still ht)
      clear HT5 HV5 ht
      have hLi : (L2.length : Int) ≤ (S.size : Int) := by omega
      by_cases hA0 : A.size = 0
      · have hA0i : (A.size : Int) = 0 := by omega
        by_cases h9 : lv < 9
        · have hi9 : (lv : Int) < 9 := by omega
          go_wp2_with fail
          go_ret
          exact ⟨rfl, HT6.out⟩
        · have hi9 : ¬ ((lv : Int) < 9) := by omega
          by_cases hS0 : S.size = 0
          · have hS0i : (S.size : Int) = 0 := by omega
            go_wp2_with fail
            go_ret
            exact ⟨rfl, HT6.out⟩
          · have hS0i : ¬ ((S.size : Int) = 0) := by omega
            have hS0b : ((S.size : Int) == 0) = false := beq_eq_false_iff_ne.2 hS0i
            go_wp2_with fail
            refine (HREF.out _).mono ?_
            rintro e w7 ⟨⟨z, d, rfl, hR⟩, ht⟩
            obtain ⟨t, r, hLt, ht0, htp, htz⟩ := HFT.out (by omega) (by omega) z d hR
            have HT7 := Lib.hid (HT6.out.trans ht)
            have hV7 := HV6.out.still ht
            clear HV6 HT6 ht
            have hL1 : 1 ≤ L.length := by rw [hLt]; simp
            obtain ⟨g, off, cap', hve, _, _, hcell⟩ := hV7.form (by omega)
            cases hve
            obtain ⟨b0, b1, b2⟩ := hcell 0 t (by rw [hLt]; rfl)
            rw [show off + 0 * 3 = off by omega] at b0
            rw [show off + 0 * 3 + 1 = off + 1 by omega] at b1
            rw [show off + 0 * 3 + 2 = off + 2 by omega] at b2
            have hLi1 : (0 : Int) < (L.length : Int) := by omega
            clear hcell hV7 hLt
            by_cases htn : 0 < t.n
            · obtain ⟨e1, e2⟩ := htp htn
              have hz0 : (0 : Int) < (z : Int) := by omega
              rw [e1] at b1
              rw [e2] at b2
              clear htp htz e1 e2 htn ht0
              go_wp2_with fail
              go_ret
              exact ⟨rfl, HT7.out⟩
            · have htn0 : t.n = 0 := by omega
              have HZZ := Lib.hid (htz htn0)
              rw [htn0] at b1
              clear htp htz htn ht0 htn0
              have hS1 : (1 : Int) ≤ (S.size : Int) := by omega
              go_wp2_with fail
              go_region_with (first | (go_at_call 9; refine (HREF2.out (by omega) _).mono ?_; rintro e w8 ⟨⟨z2, d2, rfl, hR2⟩, ht⟩; have HT8 : RowKit.Hid (Touch (fun _ => False) w w8) := Lib.hid (by first | exact HT7.out.trans ht | exact (HT7.out.drewN _).trans ht | exact (HT7.out.drew).trans ht | exact HT7.out.drew.drew.trans ht); have HR2 := Lib.hid hR2; clear ht hR2))
              rcases HZZ.out with hz | hz
              · subst hz
                go_wp2_with fail
                go_ret
                exact ⟨rfl, HT8.out⟩
              · have hzz := hz z2 d2 HR2.out
                have hzi : (z : Int) < (z2 : Int) := by omega
                by_cases hz0 : z = 0
                · subst hz0
                  go_wp2_with fail
                  go_ret
                  exact ⟨rfl, HT8.out⟩
                · have hz1 : ((z : Int) == 0) = false := beq_eq_false_iff_ne.2 (by omega)
                  have hz2 : ¬ ((z : Int) = 0) := by omega
                  go_wp2_with fail
                  go_ret
                  exact ⟨rfl, HT8.out⟩
      · have hA0i : ¬ ((A.size : Int) = 0) := by omega
        have hA0b : ((A.size : Int) == 0) = false := beq_eq_false_iff_ne.2 hA0i
        by_cases h9 : lv < 9
        · have hi9 : (lv : Int) < 9 := by omega
          go_wp2_with fail
          go_ret
          exact ⟨rfl, HT6.out⟩
        · have hi9 : ¬ ((lv : Int) < 9) := by omega
          by_cases hS0 : S.size = 0
          · have hS0i : (S.size : Int) = 0 := by omega
            go_wp2_with fail
            go_ret
            exact ⟨rfl, HT6.out⟩
          · have hS0i : ¬ ((S.size : Int) = 0) := by omega
            have hS0b : ((S.size : Int) == 0) = false := beq_eq_false_iff_ne.2 hS0i
            go_wp2_with fail
            refine (HREF.out _).mono ?_
            rintro e w7 ⟨⟨z, d, rfl, hR⟩, ht⟩
            obtain ⟨t, r, hLt, ht0, htp, htz⟩ := HFT.out (by omega) (by omega) z d hR
            have HT7 := Lib.hid (HT6.out.trans ht)
            have hV7 := HV6.out.still ht
            clear HV6 HT6 ht
            have hL1 : 1 ≤ L.length := by rw [hLt]; simp
            obtain ⟨g, off, cap', hve, _, _, hcell⟩ := hV7.form (by omega)
            cases hve
            obtain ⟨b0, b1, b2⟩ := hcell 0 t (by rw [hLt]; rfl)
            rw [show off + 0 * 3 = off by omega] at b0
            rw [show off + 0 * 3 + 1 = off + 1 by omega] at b1
            rw [show off + 0 * 3 + 2 = off + 2 by omega] at b2
            have hLi1 : (0 : Int) < (L.length : Int) := by omega
            clear hcell hV7 hLt
            by_cases htn : 0 < t.n
            · obtain ⟨e1, e2⟩ := htp htn
              have hz0 : (0 : Int) < (z : Int) := by omega
              rw [e1] at b1
              rw [e2] at b2
              clear htp htz e1 e2 htn ht0
              go_wp2_with fail
              go_ret
              exact ⟨rfl, HT7.out⟩
            · have htn0 : t.n = 0 := by omega
              have HZZ := Lib.hid (htz htn0)
              rw [htn0] at b1
              clear htp htz htn ht0 htn0
              have hS1 : (1 : Int) ≤ (S.size : Int) := by omega
              go_wp2_with fail
              go_region_with (first | (go_at_call 9; refine (HREF2.out (by omega) _).mono ?_; rintro e w8 ⟨⟨z2, d2, rfl, hR2⟩, ht⟩; have HT8 : RowKit.Hid (Touch (fun _ => False) w w8) := Lib.hid (by first | exact HT7.out.trans ht | exact (HT7.out.drewN _).trans ht | exact (HT7.out.drew).trans ht | exact HT7.out.drew.drew.trans ht); have HR2 := Lib.hid hR2; clear ht hR2))
              rcases HZZ.out with hz | hz
              · subst hz
                go_wp2_with fail
                go_ret
                exact ⟨rfl, HT8.out⟩
              · have hzz := hz z2 d2 HR2.out
                have hzi : (z : Int) < (z2 : Int) := by omega
                by_cases hz0 : z = 0
                · subst hz0
                  go_wp2_with fail
                  go_ret
                  exact ⟨rfl, HT8.out⟩
                · have hz1 : ((z : Int) == 0) = false := beq_eq_false_iff_ne.2 (by omega)
                  have hz2 : ¬ ((z : Int) = 0) := by omega
                  go_wp2_with fail
                  go_ret
                  exact ⟨rfl, HT8.out⟩

theorem mtok_calls (a s : ByteArray) (n : Int) (w : World) :
    Calls Try.prog 4 #[.string a, .string s, .int .i64 n] w fun e w' => e = .returned (.bool true) ∧ Touch (fun _ => False) w w' := by
  by_cases h : n < 0 ∨ 9 < n
  · exact mtok_out a s n w h
  · obtain ⟨lv, rfl⟩ : ∃ lv : Nat, n = (lv : Int) := ⟨n.toNat, by omega⟩
    exact mtok_in a s lv w (by omega)
end Go.Proofs.Ytbjkoepldccaaaa
