/- The walk of layer 6's statement on how far what stands so far back is a text's beginning. -/
import Derived.Test.YtdbpjkpbmfjcnaaWinD
namespace Go.Proofs.Ytdbpjkpbmfjcnaa
open Go Go.RowKit
set_option maxRecDepth 100000

theorem str_list (t : ByteArray) : t = ⟨t.data.toList.toArray⟩ := by
  apply ByteArray.ext
  simp

theorem copyL_keeps (T : List UInt8) (d k m : Nat) (h : k ≤ m) (j : Nat) (hj : j < T.length + k) : (copyL m d T)[j]? = (copyL k d T)[j]? := by
  induction m with
  | zero => rw [show k = 0 by omega]
  | succ m ih =>
    by_cases he : k = m + 1
    · rw [he]
    · rw [copyL_snoc, List.getElem?_append_left (by rw [copyL_length]; omega)]
      exact ih (by omega)
theorem cyc_at (T : List UInt8) (d : Nat) (h1 : 1 ≤ d) (hd : d ≤ T.length) : ∀ (i m : Nat), i < m → (copyL m d T)[T.length + i]? = some (cycB d T i) := by
  intro i
  induction i using Nat.strongRecOn with
  | _ i ih =>
    intro m hm
    rw [copyL_keeps T d (i + 1) m (by omega) _ (by omega), copyL_snoc, List.getElem?_append_right (by rw [copyL_length]; omega), copyL_length, Nat.sub_self]
    simp only [List.getElem?_cons_zero, Option.some.injEq]
    by_cases hi : i < d
    · have h2 := copyL_keeps T d 0 i (Nat.zero_le _) (T.length + i - d) (by omega)
      unfold cycB
      rw [Nat.mod_eq_of_lt hi]
      simp only [List.getD, h2, copyL]
      rw [show T.length + i - d = T.length - (d - i) by omega]
    · have h2 := ih (i - d) (by omega) i (by omega)
      simp only [List.getD]
      rw [show T.length + i - d = T.length + (i - d) by omega, h2]
      unfold cycB
      rw [← Nat.mod_eq_sub_mod (by omega)]
      rfl

/-- What was copied, against the text. -/
theorem match_facts (T : List UInt8) (s : ByteArray) (d n : Nat) (h1 : 1 ≤ d) (hd : d ≤ T.length) (_hn : n ≤ s.size) (hn2 : n ≤ 258) (hm : ∀ i, i < n → s.data.toList[i]? = some (cycB d T i)) :
    ∃ (sg : ByteArray) (m : Nat), m = min (n + 1) 258 ∧ sg = ⟨((copyL m d T).drop T.length).toArray⟩ ∧ sg.size = m ∧ sg.extract 0 n = s.extract 0 n ∧ ∀ (h : n < sg.size), n < 258 → sg[n] = cycB d T n := by
  obtain ⟨m, hmm⟩ : ∃ m, m = min (n + 1) 258 := ⟨_, rfl⟩
  have hgl : ((copyL m d T).drop T.length).length = m := by rw [List.length_drop, copyL_length]; omega
  have hget : ∀ i, i < m → ((copyL m d T).drop T.length)[i]? = some (cycB d T i) := fun i hi => by
    rw [List.getElem?_drop]
    exact cyc_at T d h1 hd i m hi
  refine ⟨⟨((copyL m d T).drop T.length).toArray⟩, m, hmm, rfl, ?_, ?_, ?_⟩
  · show ((copyL m d T).drop T.length).toArray.size = m
    simpa using hgl
  · apply ByteArray.ext
    rw [ByteArray.data_extract, ByteArray.data_extract]
    apply Array.ext'
    rw [Array.toList_extract, Array.toList_extract]
    simp only [List.extract_eq_take_drop, Nat.sub_zero, List.drop_zero]
    apply List.ext_getElem?
    intro i
    rw [List.getElem?_take, List.getElem?_take]
    by_cases hi : i < n
    · rw [if_pos hi, if_pos hi, hm i hi]
      exact hget i (by omega)
    · rw [if_neg hi, if_neg hi]
  · intro h h258
    have h3 := hget n (by omega)
    rw [List.getElem?_eq_getElem (by rw [hgl]; omega)] at h3
    exact Option.some.inj h3

set_option maxHeartbeats 2000000 in
theorem wmatches_ss (t s : ByteArray) (z : Int) (w : World) (ht : t.size ≤ 300) (hs : s.size ≤ 300) (hz : -9223372036854775808 ≤ z ∧ z ≤ 9223372036854775807) :
    Calls Try.prog 13 #[.string t, .string s, .int .i64 z] w fun e w' => e = .returned (.bool true) ∧ Touch (fun _ => False) w w' := by
  go_enter Try.func13, Try.ntmps13
  go_wp2_with (go_at_call 34; refine (speaks6_calls _).mono ?_; rintro e w1 ⟨rfl, ht1⟩)
  go_region
  have hT : t.data.toList.length = t.size := data_length t
  go_wp2_with fail
  refine (add_fr w _ t [] _ (fresh_win w w1.drew 66 ht1.drew) (by simp; omega)).mono ?_
  rintro e w2 ⟨rfl, h2⟩
  change FrW w w2 w1.heap.size _ at h2
  rw [List.nil_append] at h2
  generalize w1.heap.size = b at h2 ⊢
  have HT := Lib.hid hT
  by_cases hin : 1 ≤ z ∧ z ≤ t.size
  · obtain ⟨d, hd⟩ : ∃ d : Nat, z = d := ⟨z.toNat, by omega⟩
    subst hd
    have hd1 : 1 ≤ d := by omega
    have hd2 : d ≤ t.size := by omega
    clear hin hT
    go_wp2_with fail
    refine (match_in b d s t.data.toList w w2 h2 hd1 (by rw [HT.out]; omega) (by rw [HT.out]; omega) (by omega)).mono ?_
    rintro e w3 ⟨n, rfl, hn1, hn2, hm, hne, ht3⟩
    obtain ⟨sg, m, hmm, hsg, hsz, hext, hidx⟩ := match_facts t.data.toList s d n hd1 (by rw [HT.out]; exact hd2) hn1 hn2 hm
    have h3 := h2.still ht3
    have HNE := Lib.hid hne
    have HIDX := Lib.hid hidx
    have HEXT := Lib.hid hext
    have HSG := Lib.hid hsg
    have HSZ := Lib.hid hsz
    have HMM := Lib.hid hmm
    clear h2 ht3 hm hne hidx hext hsg hsz hmm
    go_wp2_with fail
    refine (copied_calls b t.data.toList w w3 h3).mono ?_
    rintro e w4 ⟨b2, rfl, h4⟩
    have H4 := Lib.hid h4
    have H3 := Lib.hid h3
    clear h3 h4
    by_cases hn258 : n < 258
    · have hz1 : sg.size = n + 1 := by have := HSZ.out; have := HMM.out; omega
      have hn3 : (n : Int) + 1 ≤ 258 := by omega
      have HC : RowKit.Hid (Calls Try.prog 37 #[.pointer (some ⟨b2, 0, none⟩), .int .i64 ((n : Int) + 1), .int .i64 d] w4 fun e w' => e = .returned (.tuple #[.string sg, .bool true]) ∧ FrW w3 w' b2 (copyL m d t.data.toList)) := Lib.hid (by
        have := copy_in b2 m d t.data.toList w3 w4 H4.out (by have := HMM.out; omega) hd1 (by rw [HT.out]; omega) (by rw [HT.out]; omega)
        rw [← HSG.out] at this
        rw [show (n : Int) + 1 = ((m : Nat) : Int) by have := HMM.out; omega]
        exact this)
      have HZ1 := Lib.hid hz1
      clear hz1
      by_cases hns : n < s.size
      · go_wp2_with fail
        refine HC.out.mono ?_
        rintro e w5 ⟨rfl, h5⟩
        have H5 := Lib.hid (H3.out.still h5.touch)
        clear h5 HC H4 H3
        go_wp2_with fail
        refine (copied_nil _).mono ?_
        rintro e w6 ⟨rfl, rfl⟩
        go_wp2_with fail
        refine (match_nil _ s _).mono ?_
        rintro e w6 ⟨rfl, rfl⟩
        have HX : RowKit.Hid (Calls Try.prog 43 #[.pointer (some ⟨b, 0, none⟩)] w5 fun e w' => e = .returned (.string t) ∧ Touch (fun _ => False) w5 w') := Lib.hid (by
          have := text_calls b t.data.toList w w5 H5.out (by rw [HT.out]; omega)
          rw [show lastL t.data.toList = t.data.toList by unfold lastL; rw [HT.out, Nat.sub_eq_zero_of_le (by omega), List.drop_zero], ← str_list t] at this
          exact this)
        go_wp2_with fail
        refine HX.out.mono ?_
        rintro e w7 ⟨rfl, ht7⟩
        have hext := HEXT.out
        have hsg : n < sg.size := by have := HZ1.out; omega
        have hne : ((sg[n].toNat : Int) != (s[n].toNat : Int)) = true := by
          simp only [bne_iff_ne, ne_eq]
          intro h
          have h2 := HIDX.out hsg hn258
          have h3 := HNE.out hns hn258
          have h4 : s.data.toList[n]? = some s[n] := List.getElem?_eq_getElem (by rw [data_length]; exact hns)
          rw [h4] at h3
          exact h3 (congrArg some ((UInt8.toNat_inj.1 (by omega)).symm.trans h2))
        have hu1 := sg[n].toNat_lt
        have hu2 := s[n].toNat_lt
        have hsgi : (n : Int) < (sg.size : Int) := by omega
        have hb1 : decide ((n : Int) ≤ (s.size : Int)) = true := decide_eq_true (by omega)
        have hb2 : decide ((n : Int) ≤ 258) = true := decide_eq_true (by omega)
        have hz3 : (n : Int) ≤ (sg.size : Int) := by omega
        have hb3 : ((n : Int) == (s.size : Int)) = false := beq_eq_false_iff_ne.2 (by omega)
        have hb4 : ((n : Int) == 258) = false := beq_eq_false_iff_ne.2 (by omega)
        go_wp2_with fail
        go_quiet (fail)
        go_wp2_with fail
        go_ret
        exact ⟨rfl, (H5.out.touch.trans ht7).drewN _⟩
      · have hns2 : (n : Int) = (s.size : Int) := by omega
        have HNS := Lib.hid hns2
        clear hns2
        go_wp2_with fail
        refine HC.out.mono ?_
        rintro e w5 ⟨rfl, h5⟩
        have H5 := Lib.hid (H3.out.still h5.touch)
        clear h5 HC H4 H3
        go_wp2_with fail
        refine (copied_nil _).mono ?_
        rintro e w6 ⟨rfl, rfl⟩
        go_wp2_with fail
        refine (match_nil _ s _).mono ?_
        rintro e w6 ⟨rfl, rfl⟩
        have HX : RowKit.Hid (Calls Try.prog 43 #[.pointer (some ⟨b, 0, none⟩)] w5 fun e w' => e = .returned (.string t) ∧ Touch (fun _ => False) w5 w') := Lib.hid (by
          have := text_calls b t.data.toList w w5 H5.out (by rw [HT.out]; omega)
          rw [show lastL t.data.toList = t.data.toList by unfold lastL; rw [HT.out, Nat.sub_eq_zero_of_le (by omega), List.drop_zero], ← str_list t] at this
          exact this)
        go_wp2_with fail
        refine HX.out.mono ?_
        rintro e w7 ⟨rfl, ht7⟩
        have hext := HEXT.out
        have hz3 : (n : Int) ≤ (sg.size : Int) := by have := HZ1.out; omega
        have hb1 : decide ((n : Int) ≤ (s.size : Int)) = true := decide_eq_true (by omega)
        have hb2 : decide ((n : Int) ≤ 258) = true := decide_eq_true (by omega)
        have hb3 : ((n : Int) == (s.size : Int)) = true := by simp only [beq_iff_eq]; exact HNS.out
        have hb4 : ((n : Int) == 258) = false := beq_eq_false_iff_ne.2 (by omega)
        go_wp2_with fail
        go_quiet (fail)
        go_wp2_with fail
        go_ret
        exact ⟨rfl, (H5.out.touch.trans ht7).drewN _⟩
    · have hn4 : ¬ ((n : Int) + 1 ≤ 258) := by omega
      have hz1 : sg.size = 258 := by have := HSZ.out; have := HMM.out; omega
      have HZ1 := Lib.hid hz1
      clear hz1
      have HC : RowKit.Hid (Calls Try.prog 37 #[.pointer (some ⟨b2, 0, none⟩), .int .i64 258, .int .i64 d] w4 fun e w' => e = .returned (.tuple #[.string sg, .bool true]) ∧ FrW w3 w' b2 (copyL m d t.data.toList)) := Lib.hid (by
        have := copy_in b2 m d t.data.toList w3 w4 H4.out (by have := HMM.out; omega) hd1 (by rw [HT.out]; omega) (by rw [HT.out]; omega)
        rw [← HSG.out] at this
        rw [show (258 : Int) = ((m : Nat) : Int) by have := HMM.out; omega]
        exact this)
      have hn5 : 258 < (n : Int) + 1 := by omega
      go_wp2_with fail
      refine HC.out.mono ?_
      rintro e w5 ⟨rfl, h5⟩
      have H5 := Lib.hid (H3.out.still h5.touch)
      clear h5 HC H4 H3
      go_wp2_with fail
      refine (copied_nil _).mono ?_
      rintro e w6 ⟨rfl, rfl⟩
      go_wp2_with fail
      refine (match_nil _ s _).mono ?_
      rintro e w6 ⟨rfl, rfl⟩
      have HX : RowKit.Hid (Calls Try.prog 43 #[.pointer (some ⟨b, 0, none⟩)] w5 fun e w' => e = .returned (.string t) ∧ Touch (fun _ => False) w5 w') := Lib.hid (by
        have := text_calls b t.data.toList w w5 H5.out (by rw [HT.out]; omega)
        rw [show lastL t.data.toList = t.data.toList by unfold lastL; rw [HT.out, Nat.sub_eq_zero_of_le (by omega), List.drop_zero], ← str_list t] at this
        exact this)
      go_wp2_with fail
      refine HX.out.mono ?_
      rintro e w7 ⟨rfl, ht7⟩
      have hext := HEXT.out
      have hz3 : (n : Int) ≤ (sg.size : Int) := by have := HZ1.out; omega
      have hb1 : decide ((n : Int) ≤ (s.size : Int)) = true := decide_eq_true (by omega)
      have hb2 : decide ((n : Int) ≤ 258) = true := decide_eq_true (by omega)
      have hb4 : ((n : Int) == 258) = true := by simp only [beq_iff_eq]; omega
      by_cases hns : (n : Int) = (s.size : Int)
      · have hb3 : ((n : Int) == (s.size : Int)) = true := by simp only [beq_iff_eq]; exact hns
        clear hns
        go_wp2_with fail
        go_quiet (fail)
        go_wp2_with fail
        go_ret
        exact ⟨rfl, (H5.out.touch.trans ht7).drewN _⟩
      · have hb3 : ((n : Int) == (s.size : Int)) = false := beq_eq_false_iff_ne.2 hns
        clear hns
        go_wp2_with fail
        go_quiet (fail)
        go_wp2_with fail
        go_ret
        exact ⟨rfl, (H5.out.touch.trans ht7).drewN _⟩
  · have hout : z < 1 ∨ (t.size : Int) < z := by omega
    have HOUT := Lib.hid hout
    clear hin hout hT
    go_wp2_with fail
    refine (match_out b z s t.data.toList w w2 h2 (by have := HOUT.out; rw [HT.out]; omega)).mono ?_
    rintro e w3 ⟨rfl, ht3⟩
    have h3 := h2.still ht3
    clear h2 ht3
    go_wp2_with fail
    refine (copied_calls b t.data.toList w w3 h3).mono ?_
    rintro e w4 ⟨b2, rfl, h4⟩
    have H4 := Lib.hid h4
    have H3 := Lib.hid h3
    clear h3 h4
    go_wp2_with fail
    refine (copy_out b2 1 z t.data.toList w3 w4 H4.out (by have := HOUT.out; rw [HT.out]; omega)).mono ?_
    rintro e w5 ⟨rfl, ht5⟩
    have H5 := Lib.hid (H3.out.still (H4.out.touch.trans ht5))
    clear H4 H3 ht5
    go_wp2_with fail
    refine (copied_nil _).mono ?_
    rintro e w6 ⟨rfl, rfl⟩
    go_wp2_with fail
    refine (match_nil _ s _).mono ?_
    rintro e w6 ⟨rfl, rfl⟩
    have HX : RowKit.Hid (Calls Try.prog 43 #[.pointer (some ⟨b, 0, none⟩)] w5 fun e w' => e = .returned (.string t) ∧ Touch (fun _ => False) w5 w') := Lib.hid (by
      have := text_calls b t.data.toList w w5 H5.out (by rw [HT.out]; omega)
      rw [show lastL t.data.toList = t.data.toList by unfold lastL; rw [HT.out, Nat.sub_eq_zero_of_le (by omega), List.drop_zero], ← str_list t] at this
      exact this)
    go_wp2_with fail
    refine HX.out.mono ?_
    rintro e w7 ⟨rfl, ht7⟩
    by_cases hz1 : z < 1
    · go_wp2_with fail
      go_ret
      exact ⟨rfl, H5.out.touch.trans ht7⟩
    · have hz2 : (t.size : Int) < z := by have := HOUT.out; omega
      go_wp2_with fail
      go_ret
      exact ⟨by first | rfl | simp, H5.out.touch.trans ht7⟩

set_option maxHeartbeats 2000000 in
theorem wmatches_sl (t s : ByteArray) (z : Int) (w : World) (ht : t.size ≤ 300) (hs : 300 < s.size ∧ s.size ≤ 9223372036854775807) (hz : -9223372036854775808 ≤ z ∧ z ≤ 9223372036854775807) :
    Calls Try.prog 13 #[.string t, .string s, .int .i64 z] w fun e w' => e = .returned (.bool true) ∧ Touch (fun _ => False) w w' := by
  obtain ⟨hs, hsm⟩ := hs
  go_enter Try.func13, Try.ntmps13
  go_wp2_with (go_at_call 34; refine (speaks6_calls _).mono ?_; rintro e w1 ⟨rfl, ht1⟩)
  go_region
  have hs : (s.extract 0 300).size ≤ 300 := by simp; omega
  generalize s.extract 0 300 = s at hs ⊢
  have hT : t.data.toList.length = t.size := data_length t
  go_wp2_with fail
  refine (add_fr w _ t [] _ (fresh_win w w1.drew 66 ht1.drew) (by simp; omega)).mono ?_
  rintro e w2 ⟨rfl, h2⟩
  change FrW w w2 w1.heap.size _ at h2
  rw [List.nil_append] at h2
  generalize w1.heap.size = b at h2 ⊢
  have HT := Lib.hid hT
  by_cases hin : 1 ≤ z ∧ z ≤ t.size
  · obtain ⟨d, hd⟩ : ∃ d : Nat, z = d := ⟨z.toNat, by omega⟩
    subst hd
    have hd1 : 1 ≤ d := by omega
    have hd2 : d ≤ t.size := by omega
    clear hin hT
    go_wp2_with fail
    refine (match_in b d s t.data.toList w w2 h2 hd1 (by rw [HT.out]; omega) (by rw [HT.out]; omega) (by omega)).mono ?_
    rintro e w3 ⟨n, rfl, hn1, hn2, hm, hne, ht3⟩
    obtain ⟨sg, m, hmm, hsg, hsz, hext, hidx⟩ := match_facts t.data.toList s d n hd1 (by rw [HT.out]; exact hd2) hn1 hn2 hm
    have h3 := h2.still ht3
    have HNE := Lib.hid hne
    have HIDX := Lib.hid hidx
    have HEXT := Lib.hid hext
    have HSG := Lib.hid hsg
    have HSZ := Lib.hid hsz
    have HMM := Lib.hid hmm
    clear h2 ht3 hm hne hidx hext hsg hsz hmm
    go_wp2_with fail
    refine (copied_calls b t.data.toList w w3 h3).mono ?_
    rintro e w4 ⟨b2, rfl, h4⟩
    have H4 := Lib.hid h4
    have H3 := Lib.hid h3
    clear h3 h4
    by_cases hn258 : n < 258
    · have hz1 : sg.size = n + 1 := by have := HSZ.out; have := HMM.out; omega
      have hn3 : (n : Int) + 1 ≤ 258 := by omega
      have HC : RowKit.Hid (Calls Try.prog 37 #[.pointer (some ⟨b2, 0, none⟩), .int .i64 ((n : Int) + 1), .int .i64 d] w4 fun e w' => e = .returned (.tuple #[.string sg, .bool true]) ∧ FrW w3 w' b2 (copyL m d t.data.toList)) := Lib.hid (by
        have := copy_in b2 m d t.data.toList w3 w4 H4.out (by have := HMM.out; omega) hd1 (by rw [HT.out]; omega) (by rw [HT.out]; omega)
        rw [← HSG.out] at this
        rw [show (n : Int) + 1 = ((m : Nat) : Int) by have := HMM.out; omega]
        exact this)
      have HZ1 := Lib.hid hz1
      clear hz1
      by_cases hns : n < s.size
      · go_wp2_with fail
        refine HC.out.mono ?_
        rintro e w5 ⟨rfl, h5⟩
        have H5 := Lib.hid (H3.out.still h5.touch)
        clear h5 HC H4 H3
        go_wp2_with fail
        refine (copied_nil _).mono ?_
        rintro e w6 ⟨rfl, rfl⟩
        go_wp2_with fail
        refine (match_nil _ s _).mono ?_
        rintro e w6 ⟨rfl, rfl⟩
        have HX : RowKit.Hid (Calls Try.prog 43 #[.pointer (some ⟨b, 0, none⟩)] w5 fun e w' => e = .returned (.string t) ∧ Touch (fun _ => False) w5 w') := Lib.hid (by
          have := text_calls b t.data.toList w w5 H5.out (by rw [HT.out]; omega)
          rw [show lastL t.data.toList = t.data.toList by unfold lastL; rw [HT.out, Nat.sub_eq_zero_of_le (by omega), List.drop_zero], ← str_list t] at this
          exact this)
        go_wp2_with fail
        refine HX.out.mono ?_
        rintro e w7 ⟨rfl, ht7⟩
        have hext := HEXT.out
        have hsg : n < sg.size := by have := HZ1.out; omega
        have hne : ((sg[n].toNat : Int) != (s[n].toNat : Int)) = true := by
          simp only [bne_iff_ne, ne_eq]
          intro h
          have h2 := HIDX.out hsg hn258
          have h3 := HNE.out hns hn258
          have h4 : s.data.toList[n]? = some s[n] := List.getElem?_eq_getElem (by rw [data_length]; exact hns)
          rw [h4] at h3
          exact h3 (congrArg some ((UInt8.toNat_inj.1 (by omega)).symm.trans h2))
        have hu1 := sg[n].toNat_lt
        have hu2 := s[n].toNat_lt
        have hsgi : (n : Int) < (sg.size : Int) := by omega
        have hb1 : decide ((n : Int) ≤ (s.size : Int)) = true := decide_eq_true (by omega)
        have hb2 : decide ((n : Int) ≤ 258) = true := decide_eq_true (by omega)
        have hz3 : (n : Int) ≤ (sg.size : Int) := by omega
        have hb3 : ((n : Int) == (s.size : Int)) = false := beq_eq_false_iff_ne.2 (by omega)
        have hb4 : ((n : Int) == 258) = false := beq_eq_false_iff_ne.2 (by omega)
        go_wp2_with fail
        go_quiet (fail)
        go_wp2_with fail
        go_ret
        exact ⟨rfl, (H5.out.touch.trans ht7).drewN _⟩
      · have hns2 : (n : Int) = (s.size : Int) := by omega
        have HNS := Lib.hid hns2
        clear hns2
        go_wp2_with fail
        refine HC.out.mono ?_
        rintro e w5 ⟨rfl, h5⟩
        have H5 := Lib.hid (H3.out.still h5.touch)
        clear h5 HC H4 H3
        go_wp2_with fail
        refine (copied_nil _).mono ?_
        rintro e w6 ⟨rfl, rfl⟩
        go_wp2_with fail
        refine (match_nil _ s _).mono ?_
        rintro e w6 ⟨rfl, rfl⟩
        have HX : RowKit.Hid (Calls Try.prog 43 #[.pointer (some ⟨b, 0, none⟩)] w5 fun e w' => e = .returned (.string t) ∧ Touch (fun _ => False) w5 w') := Lib.hid (by
          have := text_calls b t.data.toList w w5 H5.out (by rw [HT.out]; omega)
          rw [show lastL t.data.toList = t.data.toList by unfold lastL; rw [HT.out, Nat.sub_eq_zero_of_le (by omega), List.drop_zero], ← str_list t] at this
          exact this)
        go_wp2_with fail
        refine HX.out.mono ?_
        rintro e w7 ⟨rfl, ht7⟩
        have hext := HEXT.out
        have hz3 : (n : Int) ≤ (sg.size : Int) := by have := HZ1.out; omega
        have hb1 : decide ((n : Int) ≤ (s.size : Int)) = true := decide_eq_true (by omega)
        have hb2 : decide ((n : Int) ≤ 258) = true := decide_eq_true (by omega)
        have hb3 : ((n : Int) == (s.size : Int)) = true := by simp only [beq_iff_eq]; exact HNS.out
        have hb4 : ((n : Int) == 258) = false := beq_eq_false_iff_ne.2 (by omega)
        go_wp2_with fail
        go_quiet (fail)
        go_wp2_with fail
        go_ret
        exact ⟨rfl, (H5.out.touch.trans ht7).drewN _⟩
    · have hn4 : ¬ ((n : Int) + 1 ≤ 258) := by omega
      have hz1 : sg.size = 258 := by have := HSZ.out; have := HMM.out; omega
      have HZ1 := Lib.hid hz1
      clear hz1
      have HC : RowKit.Hid (Calls Try.prog 37 #[.pointer (some ⟨b2, 0, none⟩), .int .i64 258, .int .i64 d] w4 fun e w' => e = .returned (.tuple #[.string sg, .bool true]) ∧ FrW w3 w' b2 (copyL m d t.data.toList)) := Lib.hid (by
        have := copy_in b2 m d t.data.toList w3 w4 H4.out (by have := HMM.out; omega) hd1 (by rw [HT.out]; omega) (by rw [HT.out]; omega)
        rw [← HSG.out] at this
        rw [show (258 : Int) = ((m : Nat) : Int) by have := HMM.out; omega]
        exact this)
      have hn5 : 258 < (n : Int) + 1 := by omega
      go_wp2_with fail
      refine HC.out.mono ?_
      rintro e w5 ⟨rfl, h5⟩
      have H5 := Lib.hid (H3.out.still h5.touch)
      clear h5 HC H4 H3
      go_wp2_with fail
      refine (copied_nil _).mono ?_
      rintro e w6 ⟨rfl, rfl⟩
      go_wp2_with fail
      refine (match_nil _ s _).mono ?_
      rintro e w6 ⟨rfl, rfl⟩
      have HX : RowKit.Hid (Calls Try.prog 43 #[.pointer (some ⟨b, 0, none⟩)] w5 fun e w' => e = .returned (.string t) ∧ Touch (fun _ => False) w5 w') := Lib.hid (by
        have := text_calls b t.data.toList w w5 H5.out (by rw [HT.out]; omega)
        rw [show lastL t.data.toList = t.data.toList by unfold lastL; rw [HT.out, Nat.sub_eq_zero_of_le (by omega), List.drop_zero], ← str_list t] at this
        exact this)
      go_wp2_with fail
      refine HX.out.mono ?_
      rintro e w7 ⟨rfl, ht7⟩
      have hext := HEXT.out
      have hz3 : (n : Int) ≤ (sg.size : Int) := by have := HZ1.out; omega
      have hb1 : decide ((n : Int) ≤ (s.size : Int)) = true := decide_eq_true (by omega)
      have hb2 : decide ((n : Int) ≤ 258) = true := decide_eq_true (by omega)
      have hb4 : ((n : Int) == 258) = true := by simp only [beq_iff_eq]; omega
      by_cases hns : (n : Int) = (s.size : Int)
      · have hb3 : ((n : Int) == (s.size : Int)) = true := by simp only [beq_iff_eq]; exact hns
        clear hns
        go_wp2_with fail
        go_quiet (fail)
        go_wp2_with fail
        go_ret
        exact ⟨rfl, (H5.out.touch.trans ht7).drewN _⟩
      · have hb3 : ((n : Int) == (s.size : Int)) = false := beq_eq_false_iff_ne.2 hns
        clear hns
        go_wp2_with fail
        go_quiet (fail)
        go_wp2_with fail
        go_ret
        exact ⟨rfl, (H5.out.touch.trans ht7).drewN _⟩
  · have hout : z < 1 ∨ (t.size : Int) < z := by omega
    have HOUT := Lib.hid hout
    clear hin hout hT
    go_wp2_with fail
    refine (match_out b z s t.data.toList w w2 h2 (by have := HOUT.out; rw [HT.out]; omega)).mono ?_
    rintro e w3 ⟨rfl, ht3⟩
    have h3 := h2.still ht3
    clear h2 ht3
    go_wp2_with fail
    refine (copied_calls b t.data.toList w w3 h3).mono ?_
    rintro e w4 ⟨b2, rfl, h4⟩
    have H4 := Lib.hid h4
    have H3 := Lib.hid h3
    clear h3 h4
    go_wp2_with fail
    refine (copy_out b2 1 z t.data.toList w3 w4 H4.out (by have := HOUT.out; rw [HT.out]; omega)).mono ?_
    rintro e w5 ⟨rfl, ht5⟩
    have H5 := Lib.hid (H3.out.still (H4.out.touch.trans ht5))
    clear H4 H3 ht5
    go_wp2_with fail
    refine (copied_nil _).mono ?_
    rintro e w6 ⟨rfl, rfl⟩
    go_wp2_with fail
    refine (match_nil _ s _).mono ?_
    rintro e w6 ⟨rfl, rfl⟩
    have HX : RowKit.Hid (Calls Try.prog 43 #[.pointer (some ⟨b, 0, none⟩)] w5 fun e w' => e = .returned (.string t) ∧ Touch (fun _ => False) w5 w') := Lib.hid (by
      have := text_calls b t.data.toList w w5 H5.out (by rw [HT.out]; omega)
      rw [show lastL t.data.toList = t.data.toList by unfold lastL; rw [HT.out, Nat.sub_eq_zero_of_le (by omega), List.drop_zero], ← str_list t] at this
      exact this)
    go_wp2_with fail
    refine HX.out.mono ?_
    rintro e w7 ⟨rfl, ht7⟩
    by_cases hz1 : z < 1
    · go_wp2_with fail
      go_ret
      exact ⟨rfl, H5.out.touch.trans ht7⟩
    · have hz2 : (t.size : Int) < z := by have := HOUT.out; omega
      go_wp2_with fail
      go_ret
      exact ⟨by first | rfl | simp, H5.out.touch.trans ht7⟩

set_option maxHeartbeats 2000000 in
theorem wmatches_ls (t s : ByteArray) (z : Int) (w : World) (ht : 300 < t.size ∧ t.size ≤ 9223372036854775807) (hs : s.size ≤ 300) (hz : -9223372036854775808 ≤ z ∧ z ≤ 9223372036854775807) :
    Calls Try.prog 13 #[.string t, .string s, .int .i64 z] w fun e w' => e = .returned (.bool true) ∧ Touch (fun _ => False) w w' := by
  obtain ⟨ht, htm⟩ := ht
  go_enter Try.func13, Try.ntmps13
  go_wp2_with (go_at_call 34; refine (speaks6_calls _).mono ?_; rintro e w1 ⟨rfl, ht1⟩)
  go_region
  have ht : (t.extract 0 300).size ≤ 300 := by simp; omega
  generalize t.extract 0 300 = t at ht ⊢
  have hT : t.data.toList.length = t.size := data_length t
  go_wp2_with fail
  refine (add_fr w _ t [] _ (fresh_win w w1.drew 66 ht1.drew) (by simp; omega)).mono ?_
  rintro e w2 ⟨rfl, h2⟩
  change FrW w w2 w1.heap.size _ at h2
  rw [List.nil_append] at h2
  generalize w1.heap.size = b at h2 ⊢
  have HT := Lib.hid hT
  by_cases hin : 1 ≤ z ∧ z ≤ t.size
  · obtain ⟨d, hd⟩ : ∃ d : Nat, z = d := ⟨z.toNat, by omega⟩
    subst hd
    have hd1 : 1 ≤ d := by omega
    have hd2 : d ≤ t.size := by omega
    clear hin hT
    go_wp2_with fail
    refine (match_in b d s t.data.toList w w2 h2 hd1 (by rw [HT.out]; omega) (by rw [HT.out]; omega) (by omega)).mono ?_
    rintro e w3 ⟨n, rfl, hn1, hn2, hm, hne, ht3⟩
    obtain ⟨sg, m, hmm, hsg, hsz, hext, hidx⟩ := match_facts t.data.toList s d n hd1 (by rw [HT.out]; exact hd2) hn1 hn2 hm
    have h3 := h2.still ht3
    have HNE := Lib.hid hne
    have HIDX := Lib.hid hidx
    have HEXT := Lib.hid hext
    have HSG := Lib.hid hsg
    have HSZ := Lib.hid hsz
    have HMM := Lib.hid hmm
    clear h2 ht3 hm hne hidx hext hsg hsz hmm
    go_wp2_with fail
    refine (copied_calls b t.data.toList w w3 h3).mono ?_
    rintro e w4 ⟨b2, rfl, h4⟩
    have H4 := Lib.hid h4
    have H3 := Lib.hid h3
    clear h3 h4
    by_cases hn258 : n < 258
    · have hz1 : sg.size = n + 1 := by have := HSZ.out; have := HMM.out; omega
      have hn3 : (n : Int) + 1 ≤ 258 := by omega
      have HC : RowKit.Hid (Calls Try.prog 37 #[.pointer (some ⟨b2, 0, none⟩), .int .i64 ((n : Int) + 1), .int .i64 d] w4 fun e w' => e = .returned (.tuple #[.string sg, .bool true]) ∧ FrW w3 w' b2 (copyL m d t.data.toList)) := Lib.hid (by
        have := copy_in b2 m d t.data.toList w3 w4 H4.out (by have := HMM.out; omega) hd1 (by rw [HT.out]; omega) (by rw [HT.out]; omega)
        rw [← HSG.out] at this
        rw [show (n : Int) + 1 = ((m : Nat) : Int) by have := HMM.out; omega]
        exact this)
      have HZ1 := Lib.hid hz1
      clear hz1
      by_cases hns : n < s.size
      · go_wp2_with fail
        refine HC.out.mono ?_
        rintro e w5 ⟨rfl, h5⟩
        have H5 := Lib.hid (H3.out.still h5.touch)
        clear h5 HC H4 H3
        go_wp2_with fail
        refine (copied_nil _).mono ?_
        rintro e w6 ⟨rfl, rfl⟩
        go_wp2_with fail
        refine (match_nil _ s _).mono ?_
        rintro e w6 ⟨rfl, rfl⟩
        have HX : RowKit.Hid (Calls Try.prog 43 #[.pointer (some ⟨b, 0, none⟩)] w5 fun e w' => e = .returned (.string t) ∧ Touch (fun _ => False) w5 w') := Lib.hid (by
          have := text_calls b t.data.toList w w5 H5.out (by rw [HT.out]; omega)
          rw [show lastL t.data.toList = t.data.toList by unfold lastL; rw [HT.out, Nat.sub_eq_zero_of_le (by omega), List.drop_zero], ← str_list t] at this
          exact this)
        go_wp2_with fail
        refine HX.out.mono ?_
        rintro e w7 ⟨rfl, ht7⟩
        have hext := HEXT.out
        have hsg : n < sg.size := by have := HZ1.out; omega
        have hne : ((sg[n].toNat : Int) != (s[n].toNat : Int)) = true := by
          simp only [bne_iff_ne, ne_eq]
          intro h
          have h2 := HIDX.out hsg hn258
          have h3 := HNE.out hns hn258
          have h4 : s.data.toList[n]? = some s[n] := List.getElem?_eq_getElem (by rw [data_length]; exact hns)
          rw [h4] at h3
          exact h3 (congrArg some ((UInt8.toNat_inj.1 (by omega)).symm.trans h2))
        have hu1 := sg[n].toNat_lt
        have hu2 := s[n].toNat_lt
        have hsgi : (n : Int) < (sg.size : Int) := by omega
        have hb1 : decide ((n : Int) ≤ (s.size : Int)) = true := decide_eq_true (by omega)
        have hb2 : decide ((n : Int) ≤ 258) = true := decide_eq_true (by omega)
        have hz3 : (n : Int) ≤ (sg.size : Int) := by omega
        have hb3 : ((n : Int) == (s.size : Int)) = false := beq_eq_false_iff_ne.2 (by omega)
        have hb4 : ((n : Int) == 258) = false := beq_eq_false_iff_ne.2 (by omega)
        go_wp2_with fail
        go_quiet (fail)
        go_wp2_with fail
        go_ret
        exact ⟨rfl, (H5.out.touch.trans ht7).drewN _⟩
      · have hns2 : (n : Int) = (s.size : Int) := by omega
        have HNS := Lib.hid hns2
        clear hns2
        go_wp2_with fail
        refine HC.out.mono ?_
        rintro e w5 ⟨rfl, h5⟩
        have H5 := Lib.hid (H3.out.still h5.touch)
        clear h5 HC H4 H3
        go_wp2_with fail
        refine (copied_nil _).mono ?_
        rintro e w6 ⟨rfl, rfl⟩
        go_wp2_with fail
        refine (match_nil _ s _).mono ?_
        rintro e w6 ⟨rfl, rfl⟩
        have HX : RowKit.Hid (Calls Try.prog 43 #[.pointer (some ⟨b, 0, none⟩)] w5 fun e w' => e = .returned (.string t) ∧ Touch (fun _ => False) w5 w') := Lib.hid (by
          have := text_calls b t.data.toList w w5 H5.out (by rw [HT.out]; omega)
          rw [show lastL t.data.toList = t.data.toList by unfold lastL; rw [HT.out, Nat.sub_eq_zero_of_le (by omega), List.drop_zero], ← str_list t] at this
          exact this)
        go_wp2_with fail
        refine HX.out.mono ?_
        rintro e w7 ⟨rfl, ht7⟩
        have hext := HEXT.out
        have hz3 : (n : Int) ≤ (sg.size : Int) := by have := HZ1.out; omega
        have hb1 : decide ((n : Int) ≤ (s.size : Int)) = true := decide_eq_true (by omega)
        have hb2 : decide ((n : Int) ≤ 258) = true := decide_eq_true (by omega)
        have hb3 : ((n : Int) == (s.size : Int)) = true := by simp only [beq_iff_eq]; exact HNS.out
        have hb4 : ((n : Int) == 258) = false := beq_eq_false_iff_ne.2 (by omega)
        go_wp2_with fail
        go_quiet (fail)
        go_wp2_with fail
        go_ret
        exact ⟨rfl, (H5.out.touch.trans ht7).drewN _⟩
    · have hn4 : ¬ ((n : Int) + 1 ≤ 258) := by omega
      have hz1 : sg.size = 258 := by have := HSZ.out; have := HMM.out; omega
      have HZ1 := Lib.hid hz1
      clear hz1
      have HC : RowKit.Hid (Calls Try.prog 37 #[.pointer (some ⟨b2, 0, none⟩), .int .i64 258, .int .i64 d] w4 fun e w' => e = .returned (.tuple #[.string sg, .bool true]) ∧ FrW w3 w' b2 (copyL m d t.data.toList)) := Lib.hid (by
        have := copy_in b2 m d t.data.toList w3 w4 H4.out (by have := HMM.out; omega) hd1 (by rw [HT.out]; omega) (by rw [HT.out]; omega)
        rw [← HSG.out] at this
        rw [show (258 : Int) = ((m : Nat) : Int) by have := HMM.out; omega]
        exact this)
      have hn5 : 258 < (n : Int) + 1 := by omega
      go_wp2_with fail
      refine HC.out.mono ?_
      rintro e w5 ⟨rfl, h5⟩
      have H5 := Lib.hid (H3.out.still h5.touch)
      clear h5 HC H4 H3
      go_wp2_with fail
      refine (copied_nil _).mono ?_
      rintro e w6 ⟨rfl, rfl⟩
      go_wp2_with fail
      refine (match_nil _ s _).mono ?_
      rintro e w6 ⟨rfl, rfl⟩
      have HX : RowKit.Hid (Calls Try.prog 43 #[.pointer (some ⟨b, 0, none⟩)] w5 fun e w' => e = .returned (.string t) ∧ Touch (fun _ => False) w5 w') := Lib.hid (by
        have := text_calls b t.data.toList w w5 H5.out (by rw [HT.out]; omega)
        rw [show lastL t.data.toList = t.data.toList by unfold lastL; rw [HT.out, Nat.sub_eq_zero_of_le (by omega), List.drop_zero], ← str_list t] at this
        exact this)
      go_wp2_with fail
      refine HX.out.mono ?_
      rintro e w7 ⟨rfl, ht7⟩
      have hext := HEXT.out
      have hz3 : (n : Int) ≤ (sg.size : Int) := by have := HZ1.out; omega
      have hb1 : decide ((n : Int) ≤ (s.size : Int)) = true := decide_eq_true (by omega)
      have hb2 : decide ((n : Int) ≤ 258) = true := decide_eq_true (by omega)
      have hb4 : ((n : Int) == 258) = true := by simp only [beq_iff_eq]; omega
      by_cases hns : (n : Int) = (s.size : Int)
      · have hb3 : ((n : Int) == (s.size : Int)) = true := by simp only [beq_iff_eq]; exact hns
        clear hns
        go_wp2_with fail
        go_quiet (fail)
        go_wp2_with fail
        go_ret
        exact ⟨rfl, (H5.out.touch.trans ht7).drewN _⟩
      · have hb3 : ((n : Int) == (s.size : Int)) = false := beq_eq_false_iff_ne.2 hns
        clear hns
        go_wp2_with fail
        go_quiet (fail)
        go_wp2_with fail
        go_ret
        exact ⟨rfl, (H5.out.touch.trans ht7).drewN _⟩
  · have hout : z < 1 ∨ (t.size : Int) < z := by omega
    have HOUT := Lib.hid hout
    clear hin hout hT
    go_wp2_with fail
    refine (match_out b z s t.data.toList w w2 h2 (by have := HOUT.out; rw [HT.out]; omega)).mono ?_
    rintro e w3 ⟨rfl, ht3⟩
    have h3 := h2.still ht3
    clear h2 ht3
    go_wp2_with fail
    refine (copied_calls b t.data.toList w w3 h3).mono ?_
    rintro e w4 ⟨b2, rfl, h4⟩
    have H4 := Lib.hid h4
    have H3 := Lib.hid h3
    clear h3 h4
    go_wp2_with fail
    refine (copy_out b2 1 z t.data.toList w3 w4 H4.out (by have := HOUT.out; rw [HT.out]; omega)).mono ?_
    rintro e w5 ⟨rfl, ht5⟩
    have H5 := Lib.hid (H3.out.still (H4.out.touch.trans ht5))
    clear H4 H3 ht5
    go_wp2_with fail
    refine (copied_nil _).mono ?_
    rintro e w6 ⟨rfl, rfl⟩
    go_wp2_with fail
    refine (match_nil _ s _).mono ?_
    rintro e w6 ⟨rfl, rfl⟩
    have HX : RowKit.Hid (Calls Try.prog 43 #[.pointer (some ⟨b, 0, none⟩)] w5 fun e w' => e = .returned (.string t) ∧ Touch (fun _ => False) w5 w') := Lib.hid (by
      have := text_calls b t.data.toList w w5 H5.out (by rw [HT.out]; omega)
      rw [show lastL t.data.toList = t.data.toList by unfold lastL; rw [HT.out, Nat.sub_eq_zero_of_le (by omega), List.drop_zero], ← str_list t] at this
      exact this)
    go_wp2_with fail
    refine HX.out.mono ?_
    rintro e w7 ⟨rfl, ht7⟩
    by_cases hz1 : z < 1
    · go_wp2_with fail
      go_ret
      exact ⟨rfl, H5.out.touch.trans ht7⟩
    · have hz2 : (t.size : Int) < z := by have := HOUT.out; omega
      go_wp2_with fail
      go_ret
      exact ⟨by first | rfl | simp, H5.out.touch.trans ht7⟩

set_option maxHeartbeats 2000000 in
theorem wmatches_ll (t s : ByteArray) (z : Int) (w : World) (ht : 300 < t.size ∧ t.size ≤ 9223372036854775807) (hs : 300 < s.size ∧ s.size ≤ 9223372036854775807) (hz : -9223372036854775808 ≤ z ∧ z ≤ 9223372036854775807) :
    Calls Try.prog 13 #[.string t, .string s, .int .i64 z] w fun e w' => e = .returned (.bool true) ∧ Touch (fun _ => False) w w' := by
  obtain ⟨ht, htm⟩ := ht
  obtain ⟨hs, hsm⟩ := hs
  go_enter Try.func13, Try.ntmps13
  go_wp2_with (go_at_call 34; refine (speaks6_calls _).mono ?_; rintro e w1 ⟨rfl, ht1⟩)
  go_region
  have ht : (t.extract 0 300).size ≤ 300 := by simp; omega
  generalize t.extract 0 300 = t at ht ⊢
  have hs : (s.extract 0 300).size ≤ 300 := by simp; omega
  generalize s.extract 0 300 = s at hs ⊢
  have hT : t.data.toList.length = t.size := data_length t
  go_wp2_with fail
  refine (add_fr w _ t [] _ (fresh_win w w1.drew 66 ht1.drew) (by simp; omega)).mono ?_
  rintro e w2 ⟨rfl, h2⟩
  change FrW w w2 w1.heap.size _ at h2
  rw [List.nil_append] at h2
  generalize w1.heap.size = b at h2 ⊢
  have HT := Lib.hid hT
  by_cases hin : 1 ≤ z ∧ z ≤ t.size
  · obtain ⟨d, hd⟩ : ∃ d : Nat, z = d := ⟨z.toNat, by omega⟩
    subst hd
    have hd1 : 1 ≤ d := by omega
    have hd2 : d ≤ t.size := by omega
    clear hin hT
    go_wp2_with fail
    refine (match_in b d s t.data.toList w w2 h2 hd1 (by rw [HT.out]; omega) (by rw [HT.out]; omega) (by omega)).mono ?_
    rintro e w3 ⟨n, rfl, hn1, hn2, hm, hne, ht3⟩
    obtain ⟨sg, m, hmm, hsg, hsz, hext, hidx⟩ := match_facts t.data.toList s d n hd1 (by rw [HT.out]; exact hd2) hn1 hn2 hm
    have h3 := h2.still ht3
    have HNE := Lib.hid hne
    have HIDX := Lib.hid hidx
    have HEXT := Lib.hid hext
    have HSG := Lib.hid hsg
    have HSZ := Lib.hid hsz
    have HMM := Lib.hid hmm
    clear h2 ht3 hm hne hidx hext hsg hsz hmm
    go_wp2_with fail
    refine (copied_calls b t.data.toList w w3 h3).mono ?_
    rintro e w4 ⟨b2, rfl, h4⟩
    have H4 := Lib.hid h4
    have H3 := Lib.hid h3
    clear h3 h4
    by_cases hn258 : n < 258
    · have hz1 : sg.size = n + 1 := by have := HSZ.out; have := HMM.out; omega
      have hn3 : (n : Int) + 1 ≤ 258 := by omega
      have HC : RowKit.Hid (Calls Try.prog 37 #[.pointer (some ⟨b2, 0, none⟩), .int .i64 ((n : Int) + 1), .int .i64 d] w4 fun e w' => e = .returned (.tuple #[.string sg, .bool true]) ∧ FrW w3 w' b2 (copyL m d t.data.toList)) := Lib.hid (by
        have := copy_in b2 m d t.data.toList w3 w4 H4.out (by have := HMM.out; omega) hd1 (by rw [HT.out]; omega) (by rw [HT.out]; omega)
        rw [← HSG.out] at this
        rw [show (n : Int) + 1 = ((m : Nat) : Int) by have := HMM.out; omega]
        exact this)
      have HZ1 := Lib.hid hz1
      clear hz1
      by_cases hns : n < s.size
      · go_wp2_with fail
        refine HC.out.mono ?_
        rintro e w5 ⟨rfl, h5⟩
        have H5 := Lib.hid (H3.out.still h5.touch)
        clear h5 HC H4 H3
        go_wp2_with fail
        refine (copied_nil _).mono ?_
        rintro e w6 ⟨rfl, rfl⟩
        go_wp2_with fail
        refine (match_nil _ s _).mono ?_
        rintro e w6 ⟨rfl, rfl⟩
        have HX : RowKit.Hid (Calls Try.prog 43 #[.pointer (some ⟨b, 0, none⟩)] w5 fun e w' => e = .returned (.string t) ∧ Touch (fun _ => False) w5 w') := Lib.hid (by
          have := text_calls b t.data.toList w w5 H5.out (by rw [HT.out]; omega)
          rw [show lastL t.data.toList = t.data.toList by unfold lastL; rw [HT.out, Nat.sub_eq_zero_of_le (by omega), List.drop_zero], ← str_list t] at this
          exact this)
        go_wp2_with fail
        refine HX.out.mono ?_
        rintro e w7 ⟨rfl, ht7⟩
        have hext := HEXT.out
        have hsg : n < sg.size := by have := HZ1.out; omega
        have hne : ((sg[n].toNat : Int) != (s[n].toNat : Int)) = true := by
          simp only [bne_iff_ne, ne_eq]
          intro h
          have h2 := HIDX.out hsg hn258
          have h3 := HNE.out hns hn258
          have h4 : s.data.toList[n]? = some s[n] := List.getElem?_eq_getElem (by rw [data_length]; exact hns)
          rw [h4] at h3
          exact h3 (congrArg some ((UInt8.toNat_inj.1 (by omega)).symm.trans h2))
        have hu1 := sg[n].toNat_lt
        have hu2 := s[n].toNat_lt
        have hsgi : (n : Int) < (sg.size : Int) := by omega
        have hb1 : decide ((n : Int) ≤ (s.size : Int)) = true := decide_eq_true (by omega)
        have hb2 : decide ((n : Int) ≤ 258) = true := decide_eq_true (by omega)
        have hz3 : (n : Int) ≤ (sg.size : Int) := by omega
        have hb3 : ((n : Int) == (s.size : Int)) = false := beq_eq_false_iff_ne.2 (by omega)
        have hb4 : ((n : Int) == 258) = false := beq_eq_false_iff_ne.2 (by omega)
        go_wp2_with fail
        go_quiet (fail)
        go_wp2_with fail
        go_ret
        exact ⟨rfl, (H5.out.touch.trans ht7).drewN _⟩
      · have hns2 : (n : Int) = (s.size : Int) := by omega
        have HNS := Lib.hid hns2
        clear hns2
        go_wp2_with fail
        refine HC.out.mono ?_
        rintro e w5 ⟨rfl, h5⟩
        have H5 := Lib.hid (H3.out.still h5.touch)
        clear h5 HC H4 H3
        go_wp2_with fail
        refine (copied_nil _).mono ?_
        rintro e w6 ⟨rfl, rfl⟩
        go_wp2_with fail
        refine (match_nil _ s _).mono ?_
        rintro e w6 ⟨rfl, rfl⟩
        have HX : RowKit.Hid (Calls Try.prog 43 #[.pointer (some ⟨b, 0, none⟩)] w5 fun e w' => e = .returned (.string t) ∧ Touch (fun _ => False) w5 w') := Lib.hid (by
          have := text_calls b t.data.toList w w5 H5.out (by rw [HT.out]; omega)
          rw [show lastL t.data.toList = t.data.toList by unfold lastL; rw [HT.out, Nat.sub_eq_zero_of_le (by omega), List.drop_zero], ← str_list t] at this
          exact this)
        go_wp2_with fail
        refine HX.out.mono ?_
        rintro e w7 ⟨rfl, ht7⟩
        have hext := HEXT.out
        have hz3 : (n : Int) ≤ (sg.size : Int) := by have := HZ1.out; omega
        have hb1 : decide ((n : Int) ≤ (s.size : Int)) = true := decide_eq_true (by omega)
        have hb2 : decide ((n : Int) ≤ 258) = true := decide_eq_true (by omega)
        have hb3 : ((n : Int) == (s.size : Int)) = true := by simp only [beq_iff_eq]; exact HNS.out
        have hb4 : ((n : Int) == 258) = false := beq_eq_false_iff_ne.2 (by omega)
        go_wp2_with fail
        go_quiet (fail)
        go_wp2_with fail
        go_ret
        exact ⟨rfl, (H5.out.touch.trans ht7).drewN _⟩
    · have hn4 : ¬ ((n : Int) + 1 ≤ 258) := by omega
      have hz1 : sg.size = 258 := by have := HSZ.out; have := HMM.out; omega
      have HZ1 := Lib.hid hz1
      clear hz1
      have HC : RowKit.Hid (Calls Try.prog 37 #[.pointer (some ⟨b2, 0, none⟩), .int .i64 258, .int .i64 d] w4 fun e w' => e = .returned (.tuple #[.string sg, .bool true]) ∧ FrW w3 w' b2 (copyL m d t.data.toList)) := Lib.hid (by
        have := copy_in b2 m d t.data.toList w3 w4 H4.out (by have := HMM.out; omega) hd1 (by rw [HT.out]; omega) (by rw [HT.out]; omega)
        rw [← HSG.out] at this
        rw [show (258 : Int) = ((m : Nat) : Int) by have := HMM.out; omega]
        exact this)
      have hn5 : 258 < (n : Int) + 1 := by omega
      go_wp2_with fail
      refine HC.out.mono ?_
      rintro e w5 ⟨rfl, h5⟩
      have H5 := Lib.hid (H3.out.still h5.touch)
      clear h5 HC H4 H3
      go_wp2_with fail
      refine (copied_nil _).mono ?_
      rintro e w6 ⟨rfl, rfl⟩
      go_wp2_with fail
      refine (match_nil _ s _).mono ?_
      rintro e w6 ⟨rfl, rfl⟩
      have HX : RowKit.Hid (Calls Try.prog 43 #[.pointer (some ⟨b, 0, none⟩)] w5 fun e w' => e = .returned (.string t) ∧ Touch (fun _ => False) w5 w') := Lib.hid (by
        have := text_calls b t.data.toList w w5 H5.out (by rw [HT.out]; omega)
        rw [show lastL t.data.toList = t.data.toList by unfold lastL; rw [HT.out, Nat.sub_eq_zero_of_le (by omega), List.drop_zero], ← str_list t] at this
        exact this)
      go_wp2_with fail
      refine HX.out.mono ?_
      rintro e w7 ⟨rfl, ht7⟩
      have hext := HEXT.out
      have hz3 : (n : Int) ≤ (sg.size : Int) := by have := HZ1.out; omega
      have hb1 : decide ((n : Int) ≤ (s.size : Int)) = true := decide_eq_true (by omega)
      have hb2 : decide ((n : Int) ≤ 258) = true := decide_eq_true (by omega)
      have hb4 : ((n : Int) == 258) = true := by simp only [beq_iff_eq]; omega
      by_cases hns : (n : Int) = (s.size : Int)
      · have hb3 : ((n : Int) == (s.size : Int)) = true := by simp only [beq_iff_eq]; exact hns
        clear hns
        go_wp2_with fail
        go_quiet (fail)
        go_wp2_with fail
        go_ret
        exact ⟨rfl, (H5.out.touch.trans ht7).drewN _⟩
      · have hb3 : ((n : Int) == (s.size : Int)) = false := beq_eq_false_iff_ne.2 hns
        clear hns
        go_wp2_with fail
        go_quiet (fail)
        go_wp2_with fail
        go_ret
        exact ⟨rfl, (H5.out.touch.trans ht7).drewN _⟩
  · have hout : z < 1 ∨ (t.size : Int) < z := by omega
    have HOUT := Lib.hid hout
    clear hin hout hT
    go_wp2_with fail
    refine (match_out b z s t.data.toList w w2 h2 (by have := HOUT.out; rw [HT.out]; omega)).mono ?_
    rintro e w3 ⟨rfl, ht3⟩
    have h3 := h2.still ht3
    clear h2 ht3
    go_wp2_with fail
    refine (copied_calls b t.data.toList w w3 h3).mono ?_
    rintro e w4 ⟨b2, rfl, h4⟩
    have H4 := Lib.hid h4
    have H3 := Lib.hid h3
    clear h3 h4
    go_wp2_with fail
    refine (copy_out b2 1 z t.data.toList w3 w4 H4.out (by have := HOUT.out; rw [HT.out]; omega)).mono ?_
    rintro e w5 ⟨rfl, ht5⟩
    have H5 := Lib.hid (H3.out.still (H4.out.touch.trans ht5))
    clear H4 H3 ht5
    go_wp2_with fail
    refine (copied_nil _).mono ?_
    rintro e w6 ⟨rfl, rfl⟩
    go_wp2_with fail
    refine (match_nil _ s _).mono ?_
    rintro e w6 ⟨rfl, rfl⟩
    have HX : RowKit.Hid (Calls Try.prog 43 #[.pointer (some ⟨b, 0, none⟩)] w5 fun e w' => e = .returned (.string t) ∧ Touch (fun _ => False) w5 w') := Lib.hid (by
      have := text_calls b t.data.toList w w5 H5.out (by rw [HT.out]; omega)
      rw [show lastL t.data.toList = t.data.toList by unfold lastL; rw [HT.out, Nat.sub_eq_zero_of_le (by omega), List.drop_zero], ← str_list t] at this
      exact this)
    go_wp2_with fail
    refine HX.out.mono ?_
    rintro e w7 ⟨rfl, ht7⟩
    by_cases hz1 : z < 1
    · go_wp2_with fail
      go_ret
      exact ⟨rfl, H5.out.touch.trans ht7⟩
    · have hz2 : (t.size : Int) < z := by have := HOUT.out; omega
      go_wp2_with fail
      go_ret
      exact ⟨by first | rfl | simp, H5.out.touch.trans ht7⟩

theorem wmatches_calls (t s : ByteArray) (z : Int) (w : World) (ht : t.size ≤ maxLen) (hs : s.size ≤ maxLen) (hz : -9223372036854775808 ≤ z ∧ z ≤ 9223372036854775807) :
    Calls Try.prog 13 #[.string t, .string s, .int .i64 z] w fun e w' => e = .returned (.bool true) ∧ Touch (fun _ => False) w w' := by
  unfold maxLen at ht hs
  by_cases h1 : t.size ≤ 300
  · by_cases h2 : s.size ≤ 300
    · exact wmatches_ss t s z w h1 h2 hz
    · exact wmatches_sl t s z w h1 (by omega) hz
  · by_cases h2 : s.size ≤ 300
    · exact wmatches_ls t s z w (by omega) h2 hz
    · exact wmatches_ll t s z w (by omega) (by omega) hz
end Go.Proofs.Ytdbpjkpbmfjcnaa
