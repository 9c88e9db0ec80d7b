/- Contract of the document's answer of layer 3 on which lengths may be, over the translated program. -/
import Derived.Test.YtmeidbggebcddaaCanI
namespace Go.Proofs.Ytmeidbggebcddaa
open Go Go.RowKit
set_option maxRecDepth 100000

theorem ints_form {w : World} {v : Value} {xs : List Int} (h : Reads w v (intsV xs)) : ∃ a cap, v = .slice a xs.length cap ∧ xs.length ≤ 9223372036854775807 := by
  obtain ⟨a, cap, h1, h2, h3⟩ := h.form
  rw [intsV_length] at h1 h2
  unfold maxLen at h3
  exact ⟨a, cap, h1, by omega⟩
theorem reads_cell {w : World} {a : Option Addr} {n cap : Nat} {xs : List Int} (hv : Reads w (.slice a n cap) (intsV xs)) (j : Nat) (hj : j < xs.length) :
    ∃ g off, a = some ⟨g, off, none⟩ ∧ ∀ W, Touch (fun _ => False) w W → W.cell? ⟨g, off + j, none⟩ = some (.int .i64 xs[j]) := by
  obtain ⟨g, off, cap', he, _, _, _, hc⟩ := hv.addr (by rw [intsV_length]; omega)
  injection he with he1 _ _
  subst he1
  exact ⟨g, off, rfl, fun W hW => hW.cell (hc j _ (by simp [intsV, hj])) id⟩

def allN (l : List Nat) : Nat := l.countP (· ≠ 0)
theorem kraft_cons (x : Nat) (l : List Nat) : kraftN (x :: l) = shareN x + kraftN l := by simp [kraftN]
theorem all_cons (x : Nat) (l : List Nat) : allN (x :: l) = allN l + if x = 0 then 0 else 1 := by
  unfold allN
  rw [List.countP_cons]
  by_cases h : x = 0 <;> simp [h]
theorem count1_le (l : List Nat) : l.count 1 ≤ allN l := by
  induction l with
  | nil => simp [allN]
  | cons x l ih =>
    rw [all_cons, List.count_cons]
    by_cases h : x = 1
    · subst h; simp; omega
    · by_cases h0 : x = 0 <;> simp [h, h0] <;> omega
theorem share_pos (x : Nat) (_h : x ≤ 15) (h0 : x ≠ 0) : 1 ≤ shareN x := by
  unfold shareN
  rw [if_neg h0]
  exact Nat.two_pow_pos _
theorem kraft_low (l : List Nat) (h : ∀ x ∈ l, x ≤ 15) : 16384 * l.count 1 + (allN l - l.count 1) ≤ kraftN l ∧ (allN l = l.count 1 → kraftN l = 16384 * l.count 1) := by
  induction l with
  | nil => simp [allN, kraftN]
  | cons x l ih =>
    obtain ⟨ih1, ih2⟩ := ih (fun y hy => h y (List.mem_cons_of_mem _ hy))
    have hx := h x (List.mem_cons_self ..)
    have hc := count1_le l
    rw [kraft_cons, all_cons, List.count_cons]
    by_cases h1 : x = 1
    · subst h1
      have hs : shareN 1 = 16384 := rfl
      rw [hs]
      simp
      constructor
      · omega
      · intro he; have := ih2 (by omega); omega
    · by_cases h0 : x = 0
      · subst h0
        have hs : shareN 0 = 0 := rfl
        rw [hs]
        simp
        exact ⟨ih1, ih2⟩
      · have hs := share_pos x hx h0
        simp [h1, h0]
        constructor
        · omega
        · intro he; omega
theorem scant_iff (l : List Nat) (h : ∀ x ∈ l, x ≤ 15) : (kraftN l = 0 ∨ kraftN l = 16384 ∧ cntN l 1 = 1) ↔ (allN l = 0 ∨ allN l = 1 ∧ l.count 1 = 1) := by
  obtain ⟨h1, h2⟩ := kraft_low l h
  have h3 := count1_le l
  have h4 : cntN l 1 = l.count 1 := rfl
  rw [h4]
  generalize l.count 1 = c at h1 h2 h3 ⊢
  generalize allN l = a at h1 h2 h3 ⊢
  generalize kraftN l = k at h1 h2 ⊢
  constructor
  · rintro (h5 | ⟨h5, h6⟩)
    · left; omega
    · right; subst h6; omega
  · rintro (h5 | ⟨h5, h6⟩)
    · left
      have : c = 0 := by omega
      have := h2 (by omega)
      omega
    · right
      have := h2 (by omega)
      omega

theorem half_pow (k : Nat) (hk : k < 15) : 2 ^ (15 - k) / 2 = 2 ^ (15 - (k + 1)) := by
  rw [show 15 - k = (15 - (k + 1)) + 1 by omega, Nat.pow_succ, Nat.mul_div_cancel _ (by decide)]
theorem kraft_take (l : List Nat) (i : Nat) (hi : i < l.length) : kraftN (l.take (i + 1)) = kraftN (l.take i) + shareN l[i] := by
  rw [List.take_succ_eq_append_getElem hi]
  unfold kraftN
  rw [List.map_append, List.sum_append]
  simp
theorem all_take (l : List Nat) (i : Nat) (hi : i < l.length) : allN (l.take (i + 1)) = allN (l.take i) + if l[i] = 0 then 0 else 1 := by
  rw [List.take_succ_eq_append_getElem hi]
  unfold allN
  rw [List.countP_append, List.countP_singleton]
  by_cases h : l[i] = 0 <;> simp [h]
theorem kraft_take_le (l : List Nat) (h15 : ∀ x ∈ l, x ≤ 15) (hn : l.length ≤ 288) (i : Nat) : kraftN (l.take i) ≤ 16 * 9437184 := by
  have h1 : ∀ x ∈ l.take i, x ≤ 15 := fun x hx => h15 x (List.mem_of_mem_take hx)
  rw [kraft_below _ h1]
  exact below_le _ (by rw [List.length_take]; omega) 16

set_option maxHeartbeats 800000 in
theorem why_calls (xs : List Int) (loose : Bool) (v : Value) (w : World) (hv : Reads w v (intsV xs)) : Calls Try.prog 13 #[v, .bool loose] w fun e w' => e = .returned (.int .i64 (whyN xs loose : Nat)) ∧ w' = w := by
  obtain ⟨a, cap, hvf, hxl⟩ := ints_form hv
  subst hvf
  have hcell := reads_cell hv
  clear hv
  by_cases hl : 288 < xs.length
  · have hw : whyN xs loose = 1 := by unfold whyN; rw [if_pos (.inr hl)]
    rw [hw]
    go_enter Try.func13, Try.ntmps13
    go_wp2_with fail
    go_ret
    exact ⟨rfl, rfl⟩
  · go_enter Try.func13, Try.ntmps13
    go_wp2_with fail
    go_loopw [4, 5] (fun r i wr => r = .int .i64 0 ∧ ∃ k : Nat, k ≤ xs.length ∧ i = .int .i64 k ∧ wr = w ∧ RowKit.Hid ((xs.take k).any badLen = false)) (fun _ i _ => xs.length - (intOf i).toNat)
    case atStart => exact ⟨rfl, 0, Nat.zero_le _, rfl, rfl, Lib.hid rfl⟩
    case round =>
      obtain ⟨rfl, k, hk, rfl, rfl, H⟩ := hrel
      by_cases hlt : k < xs.length
      · obtain ⟨g, off, rfl, hc⟩ := hcell k hlt
        have hc' := hc _ (Touch.refl _ _)
        have HT := Lib.hid (show (xs.take (k + 1)).any badLen = ((xs.take k).any badLen || badLen xs[k]) by rw [List.take_succ_eq_append_getElem hlt, List.any_append]; simp)
        have HM := Lib.hid (show badLen xs[k] = true → xs.any badLen = true from fun h => List.any_eq_true.2 ⟨_, List.getElem_mem hlt, h⟩)
        generalize xs[k] = x at hc' HT HM
        clear hc hcell
        by_cases h1 : x < 0
        · have hw : whyN xs loose = 1 := by unfold whyN; rw [if_pos (.inl (HM.out (by unfold badLen; simp [h1])))]
          have HW := Lib.hid hw
          clear hw
          go_wp2_with fail
          go_ret
          exact ⟨by rw [HW.out]; rfl, rfl⟩
        · by_cases h2 : 15 < x
          · have hw : whyN xs loose = 1 := by unfold whyN; rw [if_pos (.inl (HM.out (by unfold badLen; simp [h2])))]
            have HW := Lib.hid hw
            clear hw
            go_wp2_with fail
            go_ret
            exact ⟨by rw [HW.out]; rfl, rfl⟩
          · have hb : badLen x = false := by unfold badLen; simp [h1, h2]
            have HB := Lib.hid (HT.out.trans (by rw [H.out, hb]))
            clear hb
            go_wp2_with fail
            go_roundw
            case rel => exact ⟨(by first | rfl | trivial), k + 1, by omega, by go_num, (by first | rfl | trivial), HB⟩
            case measure => simp [intOf]; omega
      · obtain rfl : k = xs.length := by omega
        have hgood : xs.any badLen = false := by have := H.out; rwa [List.take_length] at this
        obtain ⟨hx, h15⟩ := good_nat xs (by rw [hgood]; simp)
        have hw : whyN xs loose = if 32768 < kraftN (xs.map Int.toNat) then 5
            else if kraftN (xs.map Int.toNat) < 32768 ∧ ¬ (loose = true ∧ (kraftN (xs.map Int.toNat) = 0 ∨ kraftN (xs.map Int.toNat) = 16384 ∧ cntN (xs.map Int.toNat) 1 = 1)) then 4 else 0 := by
          unfold whyN
          rw [if_neg (by rw [hgood]; simp; omega)]
        have HW := Lib.hid hw
        have hlen : (xs.map Int.toNat).length = xs.length := List.length_map ..
        have hcell2 : ∀ j, (hj : j < (xs.map Int.toNat).length) → ∃ g off, a = some ⟨g, off, none⟩ ∧ wr.cell? ⟨g, off + j, none⟩ = some (.int .i64 ((xs.map Int.toNat)[j] : Nat)) := fun j hj => by
          have hj' : j < xs.length := by rw [← hlen]; exact hj
          obtain ⟨g, off, ha, hc⟩ := hcell j hj'
          refine ⟨g, off, ha, ?_⟩
          rw [hc _ (Touch.refl _ _)]
          have h3 : (xs.map Int.toNat)[j] = xs[j].toNat := List.getElem_map ..
          have h4 : ¬ xs[j] < 0 := by
            have h5 := h15 _ (List.getElem_mem hj)
            have h6 : xs[j]? = ((xs.map Int.toNat).map Int.ofNat)[j]? := by rw [← hx]
            rw [List.getElem?_eq_getElem hj', List.getElem?_map, List.getElem?_eq_getElem hj] at h6
            simp only [Option.map_some, Option.some.injEq] at h6
            rw [h6]
            exact Int.not_lt.2 (Int.natCast_nonneg _)
          rw [h3]
          congr 2
          omega
        have hn : (xs.map Int.toNat).length ≤ 288 := by omega
        clear hcell hw hx hgood H
        generalize xs.map Int.toNat = ls at hcell2 hlen h15 hn HW
        have HS := Lib.hid (scant_iff ls h15)
        have HKT := Lib.hid (kraft_take ls)
        have HAT := Lib.hid (all_take ls)
        have HKL := Lib.hid (kraft_take_le ls h15 hn)
        have H15 := Lib.hid h15
        have HLEN := Lib.hid hlen
        clear h15 hlen
        go_wp2_with fail
        go_loopw [6, 7, 8, 9, 10, 11] (fun s al on i _ _ w2 => ∃ k S A O : Nat, k ≤ xs.length ∧ i = .int .i64 k ∧ s = .int .i64 S ∧ al = .int .i64 A ∧ on = .int .i64 O ∧ w2 = wr ∧ RowKit.Hid (S = kraftN (ls.take k)) ∧ RowKit.Hid (A = allN (ls.take k)) ∧ RowKit.Hid (O = (ls.take k).count 1)) (fun _ _ _ i _ _ _ => xs.length - (intOf i).toNat)
        case atStart => exact ⟨0, 0, 0, 0, Nat.zero_le _, rfl, rfl, rfl, rfl, rfl, Lib.hid rfl, Lib.hid rfl, Lib.hid rfl⟩
        case round =>
          clear hk
          obtain ⟨k, S, A, O, hk, rfl, rfl, rfl, rfl, rfl, hS, hA, hO⟩ := hrel
          by_cases hlt : k < xs.length
          · have hkl : k < ls.length := by rw [HLEN.out]; exact hlt
            obtain ⟨g, off, rfl, hc⟩ := hcell2 k hkl
            have hm := H15.out _ (List.getElem_mem hkl)
            have HK1 := Lib.hid ((HKT.out k hkl).trans (by rw [← hS.out]))
            have HA1 := Lib.hid ((HAT.out k hkl).trans (by rw [← hA.out]))
            have HO1 := Lib.hid (show (ls.take (k + 1)).count 1 = O + if ls[k] = 1 then 1 else 0 by
              rw [← count_step ls k hkl 1, hO.out]
              by_cases h : ls[k] = 1
              · rw [if_pos h.symm, if_pos h, h]
              · rw [if_neg (fun e => h e.symm), if_neg h]; rfl)
            have hSb : S ≤ 16 * 9437184 := by rw [hS.out]; exact HKL.out k
            have hAb : A ≤ 288 := by rw [hA.out]; unfold allN; exact Nat.le_trans List.countP_le_length (by rw [List.length_take]; omega)
            have hOb : O ≤ 288 := by rw [hO.out]; exact Nat.le_trans List.count_le_length (by rw [List.length_take]; omega)
            generalize ls[k] = x at hc hm HK1 HA1 HO1
            by_cases hx0 : x = 0
            · subst hx0
              clear hcell2
              go_wp2_with fail
              go_roundw
              case rel => exact ⟨k + 1, S, A, O, by omega, by go_num, rfl, rfl, rfl, by first | rfl | trivial, Lib.hid (by rw [HK1.out]; rfl), Lib.hid (by rw [HA1.out]; rfl), Lib.hid (by rw [HO1.out]; rfl)⟩
              case measure => simp [intOf]; omega
            · have hxi : ((x : Int) == 0) = false := by simp; omega
              clear hcell2
              go_wp2_with fail
              go_loopw [10, 11] (fun p i w2 => ∃ j P : Nat, j ≤ x ∧ i = .int .i64 j ∧ p = .int .i64 P ∧ w2 = wr ∧ P ≤ 32768 ∧ RowKit.Hid (P = 2 ^ (15 - j))) (fun _ i _ => x - (intOf i).toNat)
              case atStart => exact ⟨0, 32768, Nat.zero_le _, rfl, rfl, rfl, Nat.le_refl _, Lib.hid rfl⟩
              case round =>
                obtain ⟨j, P, hj, rfl, rfl, rfl, hP1, hP⟩ := hrel
                by_cases hjx : j < x
                · have hdiv : (P : Int).tdiv 2 = ((P / 2 : Nat) : Int) := by rw [Int.tdiv_eq_ediv_of_nonneg (by omega)]; omega
                  go_wp2_with fail
                  go_roundw
                  case rel => exact ⟨j + 1, P / 2, by omega, by go_num, by go_num, by first | rfl | trivial, by omega, Lib.hid (by rw [hP.out, half_pow j (by omega)])⟩
                  case measure => simp [intOf]; omega
                · obtain rfl : j = x := by omega
                  have hsh := Lib.hid (show shareN j = P by unfold shareN; rw [if_neg hx0, hP.out])
                  by_cases hx1 : j = 1
                  · subst hx1
                    go_wp2_with fail
                    go_roundw
                    case rel => exact ⟨k + 1, S + P, A + 1, O + 1, by omega, by go_num, by go_num, by go_num, by go_num, by first | rfl | trivial, Lib.hid (by rw [HK1.out, hsh.out]), Lib.hid (by rw [HA1.out]; rfl), Lib.hid (by rw [HO1.out]; rfl)⟩
                    case measure => simp [intOf]; omega
                  · have hxi1 : ((j : Int) == 1) = false := by simp; omega
                    go_wp2_with fail
                    go_roundw
                    case rel => exact ⟨k + 1, S + P, A + 1, O, by omega, by go_num, by go_num, by go_num, rfl, by first | rfl | trivial, Lib.hid (by rw [HK1.out, hsh.out]), Lib.hid (by rw [HA1.out, if_neg hx0]), Lib.hid (by rw [HO1.out, if_neg hx1]; rfl)⟩
                    case measure => simp [intOf]; omega
          · obtain rfl : k = xs.length := by omega
            have hSk := hS.out
            have hAk := hA.out
            have hOk := hO.out
            rw [← HLEN.out, List.take_length] at hSk hAk hOk
            have hSb : S ≤ 16 * 9437184 := by rw [hS.out]; exact HKL.out _
            have HF := Lib.hid (show whyN xs loose = if 32768 < S then 5 else if S < 32768 ∧ ¬ (loose = true ∧ (A = 0 ∨ A = 1 ∧ O = 1)) then 4 else 0 by
              rw [HW.out, hSk, hAk, hOk]
              simp only [HS.out])
            clear hcell2 hSk hAk hOk hS hA hO HW HS HKT HAT HKL H15
            by_cases h1 : 32768 < S
            · have HV := Lib.hid (HF.out.trans (if_pos h1))
              go_wp2_with fail
              go_ret
              exact ⟨by rw [HV.out]; rfl, rfl⟩
            · by_cases h2 : S < 32768
              · have h4 : (¬ (loose = true ∧ (A = 0 ∨ A = 1 ∧ O = 1))) → whyN xs loose = 4 := fun h => by rw [HF.out, if_neg h1, if_pos ⟨h2, h⟩]
                have h5 : loose = true ∧ (A = 0 ∨ A = 1 ∧ O = 1) → whyN xs loose = 0 := fun h => by rw [HF.out, if_neg h1, if_neg (fun h' => h'.2 h)]
                have H4 := Lib.hid h4
                have H5 := Lib.hid h5
                have hi1 : decide (32768 < (S : Int)) = false := by simp; omega
                have hi2 : decide ((S : Int) < 32768) = true := by simp; omega
                clear h4 h5 h1 h2 hSb HF
                cases loose with
                | false =>
                  have HV := Lib.hid (H4.out (by simp))
                  go_wp2_with fail
                  all_goals go_ret
                  all_goals exact ⟨by rw [HV.out]; rfl, rfl⟩
                | true =>
                  by_cases hA0 : A = 0
                  · subst hA0
                    have HV := Lib.hid (H5.out (by simp))
                    go_wp2_with fail
                    go_ret
                    exact ⟨by rw [HV.out]; rfl, rfl⟩
                  · have ha0 : ((A : Int) == 0) = false := by simp; omega
                    by_cases hA1 : A = 1
                    · subst hA1
                      by_cases hO1 : O = 1
                      · subst hO1
                        have HV := Lib.hid (H5.out (by simp))
                        clear ha0 hA0
                        go_wp2_with fail
                        go_ret
                        exact ⟨by rw [HV.out]; rfl, rfl⟩
                      · have HV := Lib.hid (H4.out (by simp; omega))
                        have ho1 : ((O : Int) == 1) = false := by simp; omega
                        clear ha0 hA0 hO1
                        go_wp2_with fail
                        go_ret
                        exact ⟨by rw [HV.out]; rfl, rfl⟩
                    · have HV := Lib.hid (H4.out (by simp; omega))
                      have ha1 : ((A : Int) == 1) = false := by simp; omega
                      clear hA0 hA1
                      go_wp2_with fail
                      go_ret
                      exact ⟨by rw [HV.out]; rfl, rfl⟩
              · have HV := Lib.hid (show whyN xs loose = 0 by rw [HF.out, if_neg h1, if_neg (fun h => h2 h.1)])
                obtain rfl : S = 32768 := by omega
                clear h1 h2 hSb HF
                go_wp2_with fail
                go_ret
                exact ⟨by rw [HV.out]; rfl, rfl⟩
end Go.Proofs.Ytmeidbggebcddaa
