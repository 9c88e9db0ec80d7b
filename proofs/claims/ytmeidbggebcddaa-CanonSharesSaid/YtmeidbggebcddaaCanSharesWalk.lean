/- The walk of layer 3's statement on shares. -/
import Derived.Test.YtmeidbggebcddaaCanS
import Derived.Test.YtmeidbggebcddaaCanY
namespace Go.Proofs.Ytmeidbggebcddaa
open Go Go.RowKit
set_option maxRecDepth 100000

theorem why_whole (ls : List Nat) (loose : Bool) (h15 : ∀ x ∈ ls, x ≤ 15) (hn : ls.length ≤ 288) (hk : kraftN ls = 32768) : whyN (ls.map Int.ofNat) loose = 0 := by
  have e : (ls.map Int.ofNat).map Int.toNat = ls := by
    rw [List.map_map]
    conv => rhs; rw [← List.map_id ls]
    apply List.map_congr_left
    intro x _
    rfl
  unfold whyN
  rw [e, good_any ls h15, List.length_map, hk]
  rw [if_neg (by simp; omega), if_neg (by omega), if_neg (fun h => by omega)]

set_option maxHeartbeats 3000000 in
theorem shares_calls (xs : List Int) (v : Value) (w : World) (hv : Reads w v (intsV xs)) : Calls Try.prog 7 #[v] w fun e w' => e = .returned (.bool true) ∧ Touch (fun _ => False) w w' := by
  obtain ⟨a, cap, hcf, hcl1, hcl2⟩ := hv.form
  rw [intsV_length] at hcf hcl1
  unfold maxLen at hcl2
  subst hcf
  by_cases h250 : xs.length ≤ 250
  · go_enter Try.func7, Try.ntmps7
    go_wp2_with fail
    refine (speaks3_calls w).mono ?_
    rintro e w1 ⟨rfl, ht1⟩
    obtain ⟨ys, hys⟩ : ∃ ys, ys = xs := ⟨_, rfl⟩
    have hR1 : Reads w1 (.slice a xs.length cap) (intsV ys) := by rw [hys]; exact hv.still ht1
    have hyl : ys.length = xs.length := by rw [hys]
    have hcl := hcl1
    clear hys hv
    have hwhy0 := Lib.hid (why_calls ys false _ w1 hR1)
    go_wp2_with fail
    refine hwhy0.out.mono ?_
    rintro e w2 ⟨rfl, rfl⟩
    by_cases hbad : ys.any badLen = true ∨ 288 < ys.length
    · have hE : whyN ys false = 1 := by unfold whyN; rw [if_pos hbad]
      rw [hE]
      have hsh := Lib.hid (cshare_out ys _ w2 hR1 hbad)
      have hshf := Lib.hid (fun W (hW : Touch (fun _ => False) w2 W) => fill_none _ _ W (cshare_out ys _ W (hR1.still hW) hbad) (.inl (by decide)))
      have HT1 := Lib.hid ht1
      clear hwhy0 hE hbad hcl ht1 hR1
      go_wp2_with fail
      refine hsh.out.mono ?_
      rintro e w3 ⟨rfl, ht3⟩
      have HT3 := Lib.hid ht3
      clear ht3
      go_wp2_with fail
      refine (hshf.out w3 HT3.out).mono ?_
      rintro e w4 ⟨rfl, ht4⟩
      have HT4 := Lib.hid ((HT1.out.trans HT3.out).trans ht4)
      clear ht4
      go_wp2_with fail
      go_ret
      exact ⟨rfl, HT4.out⟩
    · have hE1 : whyN ys false ≠ 1 := by
        unfold whyN
        rw [if_neg hbad]
        split
        · decide
        · split <;> decide
      have hE5 : whyN ys false = 5 ↔ 32768 < kraftN (ys.map Int.toNat) := by
        unfold whyN
        rw [if_neg hbad]
        by_cases h : 32768 < kraftN (ys.map Int.toNat)
        · rw [if_pos h]; simp [h]
        · rw [if_neg h]
          constructor
          · intro h2; split at h2 <;> cases h2
          · intro h2; exact absurd h2 h
      obtain ⟨hx, h15⟩ := good_nat ys (fun h => hbad (.inl h))
      have hlen : (ys.map Int.toNat).length = ys.length := List.length_map ..
      have hvZ : Reads w2 (.slice a xs.length cap) (intVs (ys.map Int.toNat)) := by
        have h := hR1
        rw [hx, intsV_nat] at h
        exact h
      generalize whyN ys false = E at hE1 hE5
      clear hwhy0 hbad hx hR1
      generalize ys.map Int.toNat = ls at hE5 h15 hlen hvZ
      have hln : ls.length ≤ 288 := by omega
      have HLEN := Lib.hid (show ls.length = xs.length by rw [hlen]; exact hyl)
      have HKT := Lib.hid (kraft_take ls)
      have HKL := Lib.hid (kraft_take_le ls h15 hln)
      have H15 := Lib.hid h15
      have hsh := Lib.hid (cshare_in ls _ w2 hvZ h15 hln)
      have hshW := Lib.hid (fun W (hW : Touch (fun _ => False) w2 W) => cshare_in ls _ W (hvZ.still hW) h15 hln)
      have hSb : kraftN ls ≤ 16 * 9437184 := by have := HKL.out ls.length; rwa [List.take_length] at this
      generalize hS : kraftN ls = S at hE5 hsh hshW hSb
      have HS := Lib.hid hS
      have HT1 := Lib.hid ht1
      have HV2 := Lib.hid hvZ
      have hEi : ((E : Int) == 1) = false := beq_eq_false_iff_ne.2 (by omega)
      clear hS h15 hlen hvZ ht1 hyl hcl
      go_wp2_with fail
      refine hsh.out.mono ?_
      rintro e w3 ⟨rfl, ht3⟩
      have HT3 := Lib.hid (HT1.out.trans ht3)
      by_cases hover : 32768 < S
      · have hfl := Lib.hid (fill_none _ _ w3 (hshW.out w3 ht3) (.inr (by omega)))
        have hE : E = 5 := hE5.2 hover
        subst hE
        have HV3 := Lib.hid (HV2.out.still ht3)
        clear ht3 hsh hshW hE5
        go_wp2_with fail
        refine hfl.out.mono ?_
        rintro e wZ ⟨rfl, ht4⟩
        have HVZ := Lib.hid (HV3.out.still ht4)
        have HT := Lib.hid (HT3.out.trans ht4)
        clear ht4 hfl HV3 HV2 HT1 HT3
        go_wp2_with fail
        have hself := Lib.hid (show wZ = wZ from rfl)
        go_loopw [6, 7, 8, 9] (fun s i _ _ wr => ∃ k Q : Nat, k ≤ xs.length ∧ i = .int .i64 k ∧ s = .int .i64 Q ∧ wr = wZ ∧ RowKit.Hid (Q = kraftN (ls.take k))) (fun _ i _ _ _ => xs.length - (intOf i).toNat)
        case atStart => exact ⟨0, 0, Nat.zero_le _, rfl, rfl, rfl, Lib.hid rfl⟩
        case round =>
          obtain ⟨k, Q, hk, rfl, rfl, rfl, HQ⟩ := hrel
          by_cases hlt : k < xs.length
          · have hkl : k < ls.length := by rw [HLEN.out]; exact hlt
            obtain ⟨g, off, ea, hc⟩ := reads_at HVZ.out k (.int .i64 (ls[k] : Nat)) (by simp [intVs, hkl])
            subst ea
            have hc' := hc _ (Touch.refl _ _)
            have hm := H15.out _ (List.getElem_mem hkl)
            have HK1 := Lib.hid ((HKT.out k hkl).trans (by rw [← HQ.out]))
            have hQb : Q ≤ 16 * 9437184 := by rw [HQ.out]; exact HKL.out k
            generalize ls[k] = x at hc' hm HK1
            clear hc
            by_cases hx0 : x = 0
            · subst hx0
              go_wp2_with fail
              go_roundw
              case rel => exact ⟨k + 1, Q, by omega, by go_num, rfl, by first | rfl | trivial, Lib.hid (by rw [HK1.out]; rfl)⟩
              case measure => simp [intOf]; omega
            · have hxi : 0 < (x : Int) := by omega
              go_wp2_with fail
              go_loopw [8, 9] (fun p i w2 => ∃ j P : Nat, j ≤ x ∧ i = .int .i64 j ∧ p = .int .i64 P ∧ w2 = wr ∧ P ≤ 32768 ∧ RowKit.Hid (P = 2 ^ (15 - j))) (fun _ i _ => x - (intOf i).toNat)
              case atStart => exact ⟨0, 32768, Nat.zero_le _, rfl, rfl, rfl, Nat.le_refl _, Lib.hid rfl⟩
              case round =>
                obtain ⟨j, P, hj, rfl, rfl, rfl, hP1, hP⟩ := hrel
                by_cases hjx : j < x
                · have hdiv : (P : Int).tdiv 2 = ((P / 2 : Nat) : Int) := by rw [Int.tdiv_eq_ediv_of_nonneg (by omega)]; omega
                  go_wp2_with fail
                  go_roundw
                  case rel => exact ⟨j + 1, P / 2, by omega, by go_num, by go_num, by first | rfl | trivial, by omega, Lib.hid (by rw [hP.out, half_pow j (by omega)])⟩
                  case measure => simp [intOf]; omega
                · obtain rfl : j = x := by omega
                  have hsh := Lib.hid (show shareN j = P by unfold shareN; rw [if_neg hx0, hP.out])
                  go_wp2_with fail
                  go_roundw
                  case rel => exact ⟨k + 1, Q + P, by omega, by go_num, by go_num, by first | rfl | trivial, Lib.hid (by rw [HK1.out, hsh.out])⟩
                  case measure => simp [intOf]; omega
          · obtain rfl : k = xs.length := by omega
            obtain rfl : Q = S := by rw [HQ.out, ← HS.out, ← HLEN.out, List.take_length]
            have hQ0 : decide (32768 < (Q : Int)) = true := by simp; omega
            go_wp2_with fail
            go_ret
            exact ⟨rfl, HT.out⟩
      · have hfl := Lib.hid (fill_calls _ S w3 (hshW.out w3 ht3) (by omega))
        have hE : E ≠ 5 := fun h => hover (hE5.1 h)
        have HV3 := Lib.hid (HV2.out.still ht3)
        clear ht3 hsh hshW hE5
        go_wp2_with fail
        refine hfl.out.mono ?_
        rintro e wZ ⟨rf, rfl, hrf, hsf, ht4⟩
        obtain ⟨fa, fc, hff, _, _⟩ := hrf.form
        rw [tabV_length] at hff
        subst hff
        have HFR := Lib.hid hrf
        have HVZ := Lib.hid (HV3.out.still ht4)
        have HT := Lib.hid (HT3.out.trans ht4)
        clear ht4 hfl HV3 HV2 HT1 HT3 hrf hsf
        go_wp2_with fail
        have hself := Lib.hid (show wZ = wZ from rfl)
        go_loopw [6, 7, 8, 9] (fun s i _ _ wr => ∃ k Q : Nat, k ≤ xs.length ∧ i = .int .i64 k ∧ s = .int .i64 Q ∧ wr = wZ ∧ RowKit.Hid (Q = kraftN (ls.take k))) (fun _ i _ _ _ => xs.length - (intOf i).toNat)
        case atStart => exact ⟨0, 0, Nat.zero_le _, rfl, rfl, rfl, Lib.hid rfl⟩
        case round =>
          obtain ⟨k, Q, hk, rfl, rfl, rfl, HQ⟩ := hrel
          by_cases hlt : k < xs.length
          · have hkl : k < ls.length := by rw [HLEN.out]; exact hlt
            obtain ⟨g, off, ea, hc⟩ := reads_at HVZ.out k (.int .i64 (ls[k] : Nat)) (by simp [intVs, hkl])
            subst ea
            have hc' := hc _ (Touch.refl _ _)
            have hm := H15.out _ (List.getElem_mem hkl)
            have HK1 := Lib.hid ((HKT.out k hkl).trans (by rw [← HQ.out]))
            have hQb : Q ≤ 16 * 9437184 := by rw [HQ.out]; exact HKL.out k
            generalize ls[k] = x at hc' hm HK1
            clear hc
            by_cases hx0 : x = 0
            · subst hx0
              go_wp2_with fail
              go_roundw
              case rel => exact ⟨k + 1, Q, by omega, by go_num, rfl, by first | rfl | trivial, Lib.hid (by rw [HK1.out]; rfl)⟩
              case measure => simp [intOf]; omega
            · have hxi : 0 < (x : Int) := by omega
              go_wp2_with fail
              go_loopw [8, 9] (fun p i w2 => ∃ j P : Nat, j ≤ x ∧ i = .int .i64 j ∧ p = .int .i64 P ∧ w2 = wr ∧ P ≤ 32768 ∧ RowKit.Hid (P = 2 ^ (15 - j))) (fun _ i _ => x - (intOf i).toNat)
              case atStart => exact ⟨0, 32768, Nat.zero_le _, rfl, rfl, rfl, Nat.le_refl _, Lib.hid rfl⟩
              case round =>
                obtain ⟨j, P, hj, rfl, rfl, rfl, hP1, hP⟩ := hrel
                by_cases hjx : j < x
                · have hdiv : (P : Int).tdiv 2 = ((P / 2 : Nat) : Int) := by rw [Int.tdiv_eq_ediv_of_nonneg (by omega)]; omega
                  go_wp2_with fail
                  go_roundw
                  case rel => exact ⟨j + 1, P / 2, by omega, by go_num, by go_num, by first | rfl | trivial, by omega, Lib.hid (by rw [hP.out, half_pow j (by omega)])⟩
                  case measure => simp [intOf]; omega
                · obtain rfl : j = x := by omega
                  have hsh := Lib.hid (show shareN j = P by unfold shareN; rw [if_neg hx0, hP.out])
                  go_wp2_with fail
                  go_roundw
                  case rel => exact ⟨k + 1, Q + P, by omega, by go_num, by go_num, by first | rfl | trivial, Lib.hid (by rw [HK1.out, hsh.out])⟩
                  case measure => simp [intOf]; omega
          · obtain rfl : k = xs.length := by omega
            obtain rfl : Q = S := by rw [HQ.out, ← HS.out, ← HLEN.out, List.take_length]
            obtain ⟨wB, hwB⟩ : ∃ wB, wB = wr := ⟨_, rfl⟩
            subst hwB
            have hE1 : ((E : Int) == 5) = false := beq_eq_false_iff_ne.2 (by omega)
            have hQ0 : decide (32768 < (Q : Int)) = false := by simp; omega
            obtain ⟨i0, hi, hz0, hz1, hz2⟩ := info_parts Try.info3
            have hsrc := Lib.hid (fun W (hW : Touch (fun _ => False) wB W) => (HVZ.out.still hW).src Try.underlying22 (oneCell_intVs ls))
            have hll := HLEN.out
            go_wp2_with (at_builtin; refine wpList_append_row _ rfl (.tmp 73) (.tmp 74) 22 22 rfl 3 i0 _ 8 Try.underlying22 hi hz0 hz1 hz2 rfl (.slice (some ⟨wB.heap.size, 0, none⟩) 0 0) [] rfl (by exact .inr ⟨_, 0, 0, #[], rfl, heap_alloc_new wB _, Nat.le_refl _, Nat.zero_le _, Nat.le_refl _, rfl⟩) (.slice a xs.length cap) rfl (intVs ls).length (intVs ls) (by exact hsrc.out _ ((Touch.refl _ _).alloc _)) (by rw [intVs_length]; unfold maxLen; simp; omega) (by rw [intVs_length]; simp; omega) ?_; intro v7 w7 hrow7 hgrow7 hown7)
            have hs7 : Sep wB.heap.size none v7.ownBlock := by
              rcases hown7 with h | h
              · exact .inr ⟨wB.heap.size, h, Nat.le_refl _⟩
              · exact .inr ⟨_, h, by simp⟩
            have hT7 := (Touch.refl (fun _ => False) wB).alloc (.cells #[] 3) |>.grown hgrow7 (fun k hk => by simp [Value.ownBlock] at hk; right; omega)
            rw [List.nil_append] at hrow7
            have HROW7 := Lib.hid (show Row w7 3 v7 (intVs (ls ++ exN (32768 - Q) 0)) by rw [exN, List.append_nil]; exact hrow7)
            have HS7 := Lib.hid hs7
            have HT7 := Lib.hid hT7
            clear hrow7 hs7 hT7 hgrow7 hown7 hsrc hll
            go_loopw [2, 10, 11] (fun r rv i w8 => r = .bool false ∧ ∃ (k : Nat) (rv' : Value), rv' = rv ∧ k ≤ 16 ∧ i = .int .i64 k ∧ RowKit.Hid (Row w8 3 rv' (intVs (ls ++ exN (32768 - Q) (k - 1)))) ∧ RowKit.Hid (Sep wB.heap.size none rv'.ownBlock) ∧ RowKit.Hid (Touch (fun _ => False) wB w8)) (fun _ _ i _ => 16 - (intOf i).toNat)
            case atStart => exact ⟨by first | rfl | trivial, 0, _, rfl, by omega, rfl, HROW7, HS7, HT7⟩
            case round =>
              clear HROW7 HS7 HT7
              obtain ⟨rfl, k, rv, rfl, hk, rfl, HROW, HSEP, HTW⟩ := hrel
              by_cases hlt : k < 16
              · obtain ⟨gf, of, ef, hcf⟩ := row_at HFR.out k _ (tabV_get 16 _ k hlt)
                subst ef
                have hcf' := HTW.out.cell hcf id
                have hfb : freeN Q k < 2 := by unfold freeN; omega
                have HF0 := Lib.hid (show k = 0 → (freeN Q k = 1 ↔ Q = 0) from fun e => by subst e; unfold freeN; omega)
                have HEX := Lib.hid (show 0 < k → exN (32768 - Q) (k + 1 - 1) = exN (32768 - Q) (k - 1) ++ if freeN Q k = 1 then [k] else [] from fun h => by
                  rw [show k + 1 - 1 = (k - 1) + 1 by omega, exN, show k - 1 + 1 = k by omega]
                  rfl)
                generalize freeN Q k = f at hcf' hfb HF0 HEX
                clear hcf
                by_cases hk0 : k = 0
                · subst hk0
                  rw [Nat.add_zero] at hcf'
                  have hiff := HF0.out rfl
                  clear HEX
                  by_cases hQz : Q = 0
                  · have hf1 := hiff.2 hQz
                    subst hf1
                    subst hQz
                    clear hiff HF0
                    go_wp2_with fail
                    go_roundw
                    case rel => exact ⟨by first | rfl | trivial, 1, rv, by first | rfl | trivial, by omega, by go_num, HROW, HSEP, HTW⟩
                    case measure => simp [intOf]
                  · have hf0 : f = 0 := by omega
                    subst hf0
                    have hQi : ((Q : Int) == 0) = false := beq_eq_false_iff_ne.2 (by omega)
                    clear hiff HF0
                    go_wp2_with fail
                    go_roundw
                    case rel => exact ⟨by first | rfl | trivial, 1, rv, by first | rfl | trivial, by omega, by go_num, HROW, HSEP, HTW⟩
                    case measure => simp [intOf]
                · have hki : ((k : Int) == 0) = false := beq_eq_false_iff_ne.2 (by omega)
                  have hkp : 0 < (k : Int) := by omega
                  have hex := HEX.out (by omega)
                  have hel := (ex_le (32768 - Q) (k - 1) (by omega)).2
                  by_cases hf1 : f = 1
                  · subst hf1
                    rw [if_pos rfl] at hex
                    have HEX2 := Lib.hid hex
                    have HLN := Lib.hid (show (intVs (ls ++ exN (32768 - Q) (k - 1))).length ≤ 300 by rw [intVs_length, List.length_append]; have := HLEN.out; omega)
                    clear hex HEX HF0
                    go_wp2_with (at_builtin; refine wpList_append_row _ rfl (.tmp 116) (.tmp 118) 22 22 rfl 3 i0 _ 8 Try.underlying22 hi hz0 hz1 hz2 rfl rv (intVs (ls ++ exN (32768 - Q) (k - 1))) rfl (by exact HROW.out.kept (S := fun _ => False) ((Touch.refl _ _).alloc _) (fun _ _ => id)) (.slice (some ⟨wr.heap.size, 0, none⟩) 1 1) rfl 1 [.int .i64 (k : Int)] (by exact Src.ofCell Try.underlying22 (heap_alloc_new wr _) rfl) (by have := HLN.out; unfold maxLen; omega) (by have := HLN.out; omega) ?_; intro v9 w9 hrow9 hgrow9 hown9)
                    go_roundw
                    case rel =>
                      refine ⟨by first | rfl | trivial, k + 1, v9, by first | rfl | trivial, by omega, by go_num, Lib.hid ?_, Lib.hid (own_sep HSEP.out hown9 (by have := HTW.out.size; simp; omega)), Lib.hid (sep_grown (HTW.out.alloc _) HSEP.out hgrow9)⟩
                      rw [intVs_snoc, List.append_assoc, ← HEX2.out] at hrow9
                      exact hrow9
                    case measure => simp [intOf]; omega
                  · have hf0 : f = 0 := by omega
                    subst hf0
                    rw [if_neg (by decide), List.append_nil] at hex
                    have HEX2 := Lib.hid hex
                    clear hex HEX HF0
                    go_wp2_with fail
                    go_roundw
                    case rel => exact ⟨by first | rfl | trivial, k + 1, rv, by first | rfl | trivial, by omega, by go_num, Lib.hid (by rw [HEX2.out]; exact HROW.out), HSEP, HTW⟩
                    case measure => simp [intOf]; omega
              · obtain rfl : k = 16 := by omega
                have HTF := Lib.hid (HT.out.trans HTW.out)
                by_cases hQz : Q = 0
                · subst hQz
                  go_wp2_with fail
                  go_ret
                  exact ⟨rfl, HTF.out⟩
                · have hQi : ((Q : Int) == 0) = false := beq_eq_false_iff_ne.2 (by omega)
                  have hex := kraft_ex (32768 - Q) 15 (by omega) (Nat.le_refl _)
                  have hel := ex_le (32768 - Q) 15 (Nat.le_refl _)
                  have hwhy := Lib.hid (why_calls ((ls ++ exN (32768 - Q) 15).map Int.ofNat) false rv wr (by rw [intsV_nat]; exact HROW.out.reads))
                  rw [why_whole (ls ++ exN (32768 - Q) 15) false (fun x hx => by
                      rcases List.mem_append.1 hx with hx | hx
                      · exact H15.out x hx
                      · exact hel.1 x hx) (by rw [List.length_append]; have := HLEN.out; omega) (by rw [kraft_append, HS.out, hex]; simp; omega)] at hwhy
                  clear hex hel
                  go_wp2_with (go_at_call 13; refine hwhy.out.mono ?_; rintro e w9 ⟨rfl, rfl⟩)
                  go_ret
                  exact ⟨rfl, HTF.out⟩
  · go_enter Try.func7, Try.ntmps7
    go_wp2_with fail
    refine (speaks3_calls w).mono ?_
    rintro e w1 ⟨rfl, ht1⟩
    have hR1 : Reads w1 (.slice a 250 cap) (intsV (xs.take 250)) := by
      have h := (hv.still ht1).upto (q := 250) (by omega)
      rw [show (intsV xs).take 250 = intsV (xs.take 250) by simp [intsV, List.map_take]] at h
      exact h
    obtain ⟨ys, hys⟩ : ∃ ys, ys = xs.take 250 := ⟨_, rfl⟩
    rw [← hys] at hR1
    have hyl : ys.length = 250 := by rw [hys, List.length_take]; omega
    have hcl : 250 ≤ cap := by omega
    clear hys hv
    have hwhy0 := Lib.hid (why_calls ys false _ w1 hR1)
    go_wp2_with fail
    refine hwhy0.out.mono ?_
    rintro e w2 ⟨rfl, rfl⟩
    by_cases hbad : ys.any badLen = true ∨ 288 < ys.length
    · have hE : whyN ys false = 1 := by unfold whyN; rw [if_pos hbad]
      rw [hE]
      have hsh := Lib.hid (cshare_out ys _ w2 hR1 hbad)
      have hshf := Lib.hid (fun W (hW : Touch (fun _ => False) w2 W) => fill_none _ _ W (cshare_out ys _ W (hR1.still hW) hbad) (.inl (by decide)))
      have HT1 := Lib.hid ht1
      clear hwhy0 hE hbad hcl ht1 hR1
      go_wp2_with fail
      refine hsh.out.mono ?_
      rintro e w3 ⟨rfl, ht3⟩
      have HT3 := Lib.hid ht3
      clear ht3
      go_wp2_with fail
      refine (hshf.out w3 HT3.out).mono ?_
      rintro e w4 ⟨rfl, ht4⟩
      have HT4 := Lib.hid ((HT1.out.trans HT3.out).trans ht4)
      clear ht4
      go_wp2_with fail
      go_ret
      exact ⟨rfl, HT4.out⟩
    · have hE1 : whyN ys false ≠ 1 := by
        unfold whyN
        rw [if_neg hbad]
        split
        · decide
        · split <;> decide
      have hE5 : whyN ys false = 5 ↔ 32768 < kraftN (ys.map Int.toNat) := by
        unfold whyN
        rw [if_neg hbad]
        by_cases h : 32768 < kraftN (ys.map Int.toNat)
        · rw [if_pos h]; simp [h]
        · rw [if_neg h]
          constructor
          · intro h2; split at h2 <;> cases h2
          · intro h2; exact absurd h2 h
      obtain ⟨hx, h15⟩ := good_nat ys (fun h => hbad (.inl h))
      have hlen : (ys.map Int.toNat).length = ys.length := List.length_map ..
      have hvZ : Reads w2 (.slice a 250 cap) (intVs (ys.map Int.toNat)) := by
        have h := hR1
        rw [hx, intsV_nat] at h
        exact h
      generalize whyN ys false = E at hE1 hE5
      clear hwhy0 hbad hx hR1
      generalize ys.map Int.toNat = ls at hE5 h15 hlen hvZ
      have hln : ls.length ≤ 288 := by omega
      have HLEN := Lib.hid (show ls.length = 250 by rw [hlen]; exact hyl)
      have HKT := Lib.hid (kraft_take ls)
      have HKL := Lib.hid (kraft_take_le ls h15 hln)
      have H15 := Lib.hid h15
      have hsh := Lib.hid (cshare_in ls _ w2 hvZ h15 hln)
      have hshW := Lib.hid (fun W (hW : Touch (fun _ => False) w2 W) => cshare_in ls _ W (hvZ.still hW) h15 hln)
      have hSb : kraftN ls ≤ 16 * 9437184 := by have := HKL.out ls.length; rwa [List.take_length] at this
      generalize hS : kraftN ls = S at hE5 hsh hshW hSb
      have HS := Lib.hid hS
      have HT1 := Lib.hid ht1
      have HV2 := Lib.hid hvZ
      have hEi : ((E : Int) == 1) = false := beq_eq_false_iff_ne.2 (by omega)
      clear hS h15 hlen hvZ ht1 hyl hcl
      go_wp2_with fail
      refine hsh.out.mono ?_
      rintro e w3 ⟨rfl, ht3⟩
      have HT3 := Lib.hid (HT1.out.trans ht3)
      by_cases hover : 32768 < S
      · have hfl := Lib.hid (fill_none _ _ w3 (hshW.out w3 ht3) (.inr (by omega)))
        have hE : E = 5 := hE5.2 hover
        subst hE
        have HV3 := Lib.hid (HV2.out.still ht3)
        clear ht3 hsh hshW hE5
        go_wp2_with fail
        refine hfl.out.mono ?_
        rintro e wZ ⟨rfl, ht4⟩
        have HVZ := Lib.hid (HV3.out.still ht4)
        have HT := Lib.hid (HT3.out.trans ht4)
        clear ht4 hfl HV3 HV2 HT1 HT3
        go_wp2_with fail
        have hself := Lib.hid (show wZ = wZ from rfl)
        go_loopw [6, 7, 8, 9] (fun s i _ _ wr => ∃ k Q : Nat, k ≤ 250 ∧ i = .int .i64 k ∧ s = .int .i64 Q ∧ wr = wZ ∧ RowKit.Hid (Q = kraftN (ls.take k))) (fun _ i _ _ _ => 250 - (intOf i).toNat)
        case atStart => exact ⟨0, 0, Nat.zero_le _, rfl, rfl, rfl, Lib.hid rfl⟩
        case round =>
          obtain ⟨k, Q, hk, rfl, rfl, rfl, HQ⟩ := hrel
          by_cases hlt : k < 250
          · have hkl : k < ls.length := by rw [HLEN.out]; exact hlt
            obtain ⟨g, off, ea, hc⟩ := reads_at HVZ.out k (.int .i64 (ls[k] : Nat)) (by simp [intVs, hkl])
            subst ea
            have hc' := hc _ (Touch.refl _ _)
            have hm := H15.out _ (List.getElem_mem hkl)
            have HK1 := Lib.hid ((HKT.out k hkl).trans (by rw [← HQ.out]))
            have hQb : Q ≤ 16 * 9437184 := by rw [HQ.out]; exact HKL.out k
            generalize ls[k] = x at hc' hm HK1
            clear hc
            by_cases hx0 : x = 0
            · subst hx0
              go_wp2_with fail
              go_roundw
              case rel => exact ⟨k + 1, Q, by omega, by go_num, rfl, by first | rfl | trivial, Lib.hid (by rw [HK1.out]; rfl)⟩
              case measure => simp [intOf]; omega
            · have hxi : 0 < (x : Int) := by omega
              go_wp2_with fail
              go_loopw [8, 9] (fun p i w2 => ∃ j P : Nat, j ≤ x ∧ i = .int .i64 j ∧ p = .int .i64 P ∧ w2 = wr ∧ P ≤ 32768 ∧ RowKit.Hid (P = 2 ^ (15 - j))) (fun _ i _ => x - (intOf i).toNat)
              case atStart => exact ⟨0, 32768, Nat.zero_le _, rfl, rfl, rfl, Nat.le_refl _, Lib.hid rfl⟩
              case round =>
                obtain ⟨j, P, hj, rfl, rfl, rfl, hP1, hP⟩ := hrel
                by_cases hjx : j < x
                · have hdiv : (P : Int).tdiv 2 = ((P / 2 : Nat) : Int) := by rw [Int.tdiv_eq_ediv_of_nonneg (by omega)]; omega
                  go_wp2_with fail
                  go_roundw
                  case rel => exact ⟨j + 1, P / 2, by omega, by go_num, by go_num, by first | rfl | trivial, by omega, Lib.hid (by rw [hP.out, half_pow j (by omega)])⟩
                  case measure => simp [intOf]; omega
                · obtain rfl : j = x := by omega
                  have hsh := Lib.hid (show shareN j = P by unfold shareN; rw [if_neg hx0, hP.out])
                  go_wp2_with fail
                  go_roundw
                  case rel => exact ⟨k + 1, Q + P, by omega, by go_num, by go_num, by first | rfl | trivial, Lib.hid (by rw [HK1.out, hsh.out])⟩
                  case measure => simp [intOf]; omega
          · obtain rfl : k = 250 := by omega
            obtain rfl : Q = S := by rw [HQ.out, ← HS.out, ← HLEN.out, List.take_length]
            have hQ0 : decide (32768 < (Q : Int)) = true := by simp; omega
            go_wp2_with fail
            go_ret
            exact ⟨rfl, HT.out⟩
      · have hfl := Lib.hid (fill_calls _ S w3 (hshW.out w3 ht3) (by omega))
        have hE : E ≠ 5 := fun h => hover (hE5.1 h)
        have HV3 := Lib.hid (HV2.out.still ht3)
        clear ht3 hsh hshW hE5
        go_wp2_with fail
        refine hfl.out.mono ?_
        rintro e wZ ⟨rf, rfl, hrf, hsf, ht4⟩
        obtain ⟨fa, fc, hff, _, _⟩ := hrf.form
        rw [tabV_length] at hff
        subst hff
        have HFR := Lib.hid hrf
        have HVZ := Lib.hid (HV3.out.still ht4)
        have HT := Lib.hid (HT3.out.trans ht4)
        clear ht4 hfl HV3 HV2 HT1 HT3 hrf hsf
        go_wp2_with fail
        have hself := Lib.hid (show wZ = wZ from rfl)
        go_loopw [6, 7, 8, 9] (fun s i _ _ wr => ∃ k Q : Nat, k ≤ 250 ∧ i = .int .i64 k ∧ s = .int .i64 Q ∧ wr = wZ ∧ RowKit.Hid (Q = kraftN (ls.take k))) (fun _ i _ _ _ => 250 - (intOf i).toNat)
        case atStart => exact ⟨0, 0, Nat.zero_le _, rfl, rfl, rfl, Lib.hid rfl⟩
        case round =>
          obtain ⟨k, Q, hk, rfl, rfl, rfl, HQ⟩ := hrel
          by_cases hlt : k < 250
          · have hkl : k < ls.length := by rw [HLEN.out]; exact hlt
            obtain ⟨g, off, ea, hc⟩ := reads_at HVZ.out k (.int .i64 (ls[k] : Nat)) (by simp [intVs, hkl])
            subst ea
            have hc' := hc _ (Touch.refl _ _)
            have hm := H15.out _ (List.getElem_mem hkl)
            have HK1 := Lib.hid ((HKT.out k hkl).trans (by rw [← HQ.out]))
            have hQb : Q ≤ 16 * 9437184 := by rw [HQ.out]; exact HKL.out k
            generalize ls[k] = x at hc' hm HK1
            clear hc
            by_cases hx0 : x = 0
            · subst hx0
              go_wp2_with fail
              go_roundw
              case rel => exact ⟨k + 1, Q, by omega, by go_num, rfl, by first | rfl | trivial, Lib.hid (by rw [HK1.out]; rfl)⟩
              case measure => simp [intOf]; omega
            · have hxi : 0 < (x : Int) := by omega
              go_wp2_with fail
              go_loopw [8, 9] (fun p i w2 => ∃ j P : Nat, j ≤ x ∧ i = .int .i64 j ∧ p = .int .i64 P ∧ w2 = wr ∧ P ≤ 32768 ∧ RowKit.Hid (P = 2 ^ (15 - j))) (fun _ i _ => x - (intOf i).toNat)
              case atStart => exact ⟨0, 32768, Nat.zero_le _, rfl, rfl, rfl, Nat.le_refl _, Lib.hid rfl⟩
              case round =>
                obtain ⟨j, P, hj, rfl, rfl, rfl, hP1, hP⟩ := hrel
                by_cases hjx : j < x
                · have hdiv : (P : Int).tdiv 2 = ((P / 2 : Nat) : Int) := by rw [Int.tdiv_eq_ediv_of_nonneg (by omega)]; omega
                  go_wp2_with fail
                  go_roundw
                  case rel => exact ⟨j + 1, P / 2, by omega, by go_num, by go_num, by first | rfl | trivial, by omega, Lib.hid (by rw [hP.out, half_pow j (by omega)])⟩
                  case measure => simp [intOf]; omega
                · obtain rfl : j = x := by omega
                  have hsh := Lib.hid (show shareN j = P by unfold shareN; rw [if_neg hx0, hP.out])
                  go_wp2_with fail
                  go_roundw
                  case rel => exact ⟨k + 1, Q + P, by omega, by go_num, by go_num, by first | rfl | trivial, Lib.hid (by rw [HK1.out, hsh.out])⟩
                  case measure => simp [intOf]; omega
          · obtain rfl : k = 250 := by omega
            obtain rfl : Q = S := by rw [HQ.out, ← HS.out, ← HLEN.out, List.take_length]
            obtain ⟨wB, hwB⟩ : ∃ wB, wB = wr := ⟨_, rfl⟩
            subst hwB
            have hE1 : ((E : Int) == 5) = false := beq_eq_false_iff_ne.2 (by omega)
            have hQ0 : decide (32768 < (Q : Int)) = false := by simp; omega
            obtain ⟨i0, hi, hz0, hz1, hz2⟩ := info_parts Try.info3
            have hsrc := Lib.hid (fun W (hW : Touch (fun _ => False) wB W) => (HVZ.out.still hW).src Try.underlying22 (oneCell_intVs ls))
            have hll := HLEN.out
            go_wp2_with (at_builtin; refine wpList_append_row _ rfl (.tmp 73) (.tmp 74) 22 22 rfl 3 i0 _ 8 Try.underlying22 hi hz0 hz1 hz2 rfl (.slice (some ⟨wB.heap.size, 0, none⟩) 0 0) [] rfl (by exact .inr ⟨_, 0, 0, #[], rfl, heap_alloc_new wB _, Nat.le_refl _, Nat.zero_le _, Nat.le_refl _, rfl⟩) (.slice a 250 cap) rfl (intVs ls).length (intVs ls) (by exact hsrc.out _ ((Touch.refl _ _).alloc _)) (by rw [intVs_length]; unfold maxLen; simp; omega) (by rw [intVs_length]; simp; omega) ?_; intro v7 w7 hrow7 hgrow7 hown7)
            have hs7 : Sep wB.heap.size none v7.ownBlock := by
              rcases hown7 with h | h
              · exact .inr ⟨wB.heap.size, h, Nat.le_refl _⟩
              · exact .inr ⟨_, h, by simp⟩
            have hT7 := (Touch.refl (fun _ => False) wB).alloc (.cells #[] 3) |>.grown hgrow7 (fun k hk => by simp [Value.ownBlock] at hk; right; omega)
            rw [List.nil_append] at hrow7
            have HROW7 := Lib.hid (show Row w7 3 v7 (intVs (ls ++ exN (32768 - Q) 0)) by rw [exN, List.append_nil]; exact hrow7)
            have HS7 := Lib.hid hs7
            have HT7 := Lib.hid hT7
            clear hrow7 hs7 hT7 hgrow7 hown7 hsrc hll
            go_loopw [2, 10, 11] (fun r rv i w8 => r = .bool false ∧ ∃ (k : Nat) (rv' : Value), rv' = rv ∧ k ≤ 16 ∧ i = .int .i64 k ∧ RowKit.Hid (Row w8 3 rv' (intVs (ls ++ exN (32768 - Q) (k - 1)))) ∧ RowKit.Hid (Sep wB.heap.size none rv'.ownBlock) ∧ RowKit.Hid (Touch (fun _ => False) wB w8)) (fun _ _ i _ => 16 - (intOf i).toNat)
            case atStart => exact ⟨by first | rfl | trivial, 0, _, rfl, by omega, rfl, HROW7, HS7, HT7⟩
            case round =>
              clear HROW7 HS7 HT7
              obtain ⟨rfl, k, rv, rfl, hk, rfl, HROW, HSEP, HTW⟩ := hrel
              by_cases hlt : k < 16
              · obtain ⟨gf, of, ef, hcf⟩ := row_at HFR.out k _ (tabV_get 16 _ k hlt)
                subst ef
                have hcf' := HTW.out.cell hcf id
                have hfb : freeN Q k < 2 := by unfold freeN; omega
                have HF0 := Lib.hid (show k = 0 → (freeN Q k = 1 ↔ Q = 0) from fun e => by subst e; unfold freeN; omega)
                have HEX := Lib.hid (show 0 < k → exN (32768 - Q) (k + 1 - 1) = exN (32768 - Q) (k - 1) ++ if freeN Q k = 1 then [k] else [] from fun h => by
                  rw [show k + 1 - 1 = (k - 1) + 1 by omega, exN, show k - 1 + 1 = k by omega]
                  rfl)
                generalize freeN Q k = f at hcf' hfb HF0 HEX
                clear hcf
                by_cases hk0 : k = 0
                · subst hk0
                  rw [Nat.add_zero] at hcf'
                  have hiff := HF0.out rfl
                  clear HEX
                  by_cases hQz : Q = 0
                  · have hf1 := hiff.2 hQz
                    subst hf1
                    subst hQz
                    clear hiff HF0
                    go_wp2_with fail
                    go_roundw
                    case rel => exact ⟨by first | rfl | trivial, 1, rv, by first | rfl | trivial, by omega, by go_num, HROW, HSEP, HTW⟩
                    case measure => simp [intOf]
                  · have hf0 : f = 0 := by omega
                    subst hf0
                    have hQi : ((Q : Int) == 0) = false := beq_eq_false_iff_ne.2 (by omega)
                    clear hiff HF0
                    go_wp2_with fail
                    go_roundw
                    case rel => exact ⟨by first | rfl | trivial, 1, rv, by first | rfl | trivial, by omega, by go_num, HROW, HSEP, HTW⟩
                    case measure => simp [intOf]
                · have hki : ((k : Int) == 0) = false := beq_eq_false_iff_ne.2 (by omega)
                  have hkp : 0 < (k : Int) := by omega
                  have hex := HEX.out (by omega)
                  have hel := (ex_le (32768 - Q) (k - 1) (by omega)).2
                  by_cases hf1 : f = 1
                  · subst hf1
                    rw [if_pos rfl] at hex
                    have HEX2 := Lib.hid hex
                    have HLN := Lib.hid (show (intVs (ls ++ exN (32768 - Q) (k - 1))).length ≤ 300 by rw [intVs_length, List.length_append]; have := HLEN.out; omega)
                    clear hex HEX HF0
                    go_wp2_with (at_builtin; refine wpList_append_row _ rfl (.tmp 116) (.tmp 118) 22 22 rfl 3 i0 _ 8 Try.underlying22 hi hz0 hz1 hz2 rfl rv (intVs (ls ++ exN (32768 - Q) (k - 1))) rfl (by exact HROW.out.kept (S := fun _ => False) ((Touch.refl _ _).alloc _) (fun _ _ => id)) (.slice (some ⟨wr.heap.size, 0, none⟩) 1 1) rfl 1 [.int .i64 (k : Int)] (by exact Src.ofCell Try.underlying22 (heap_alloc_new wr _) rfl) (by have := HLN.out; unfold maxLen; omega) (by have := HLN.out; omega) ?_; intro v9 w9 hrow9 hgrow9 hown9)
                    go_roundw
                    case rel =>
                      refine ⟨by first | rfl | trivial, k + 1, v9, by first | rfl | trivial, by omega, by go_num, Lib.hid ?_, Lib.hid (own_sep HSEP.out hown9 (by have := HTW.out.size; simp; omega)), Lib.hid (sep_grown (HTW.out.alloc _) HSEP.out hgrow9)⟩
                      rw [intVs_snoc, List.append_assoc, ← HEX2.out] at hrow9
                      exact hrow9
                    case measure => simp [intOf]; omega
                  · have hf0 : f = 0 := by omega
                    subst hf0
                    rw [if_neg (by decide), List.append_nil] at hex
                    have HEX2 := Lib.hid hex
                    clear hex HEX HF0
                    go_wp2_with fail
                    go_roundw
                    case rel => exact ⟨by first | rfl | trivial, k + 1, rv, by first | rfl | trivial, by omega, by go_num, Lib.hid (by rw [HEX2.out]; exact HROW.out), HSEP, HTW⟩
                    case measure => simp [intOf]; omega
              · obtain rfl : k = 16 := by omega
                have HTF := Lib.hid (HT.out.trans HTW.out)
                by_cases hQz : Q = 0
                · subst hQz
                  go_wp2_with fail
                  go_ret
                  exact ⟨rfl, HTF.out⟩
                · have hQi : ((Q : Int) == 0) = false := beq_eq_false_iff_ne.2 (by omega)
                  have hex := kraft_ex (32768 - Q) 15 (by omega) (Nat.le_refl _)
                  have hel := ex_le (32768 - Q) 15 (Nat.le_refl _)
                  have hwhy := Lib.hid (why_calls ((ls ++ exN (32768 - Q) 15).map Int.ofNat) false rv wr (by rw [intsV_nat]; exact HROW.out.reads))
                  rw [why_whole (ls ++ exN (32768 - Q) 15) false (fun x hx => by
                      rcases List.mem_append.1 hx with hx | hx
                      · exact H15.out x hx
                      · exact hel.1 x hx) (by rw [List.length_append]; have := HLEN.out; omega) (by rw [kraft_append, HS.out, hex]; simp; omega)] at hwhy
                  clear hex hel
                  go_wp2_with (go_at_call 13; refine hwhy.out.mono ?_; rintro e w9 ⟨rfl, rfl⟩)
                  go_ret
                  exact ⟨rfl, HTF.out⟩
end Go.Proofs.Ytmeidbggebcddaa
