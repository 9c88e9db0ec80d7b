/- The walk of layer 12's statement on names of texts. -/
import Derived.Test.YtdohhmaggeocjaaDoorNamP
namespace Go.Proofs.YtdohhmaggeocjaaDoor
open Go Go.RowKit
set_option maxRecDepth 100000

theorem strEq_self (a : ByteArray) : (a.toList == a.toList) = true := beq_self_eq_true _
theorem strVs_last (L : List (List UInt8)) (p : List UInt8) : (strVs (L ++ [p]))[L.length]? = some (.string ⟨p.toArray⟩) := by
  rw [strVs_snoc, List.getElem?_append_right (by rw [strVs_length]; exact Nat.le_refl _), strVs_length, Nat.sub_self]
  rfl
theorem isEmpty_empty : ByteArray.empty.toList.isEmpty = true := by rw [ByteArray.toList_eq]; rfl

set_option maxHeartbeats 2000000 in
theorem cleans_t_one (s S : ByteArray) (w : World) (hT : Tabs w) (k : Nat) (hk1 : min (s.size : Int) 500 = (k : Int)) (hkl : (k : Int) ≤ (s.size : Int)) (hS : s.extract 0 k = S) (hs : S.size ≤ 500) (t : ByteArray) (hts : t.size ≤ 300000) (hV : clnV S = (t, true)) (hck : checkB t = true) (hV2 : clnV t = (t, true))
    (L : List (List UInt8)) (hL : spl S.data.toList = L ++ [(baseT S).data.toList]) (hl : dirT S = ByteArray.empty) (hn : L.length = 0) : Calls Tryd.prog 6 #[.string s] w fun e w' => e = .returned (.bool true) ∧ Touch (fun _ => False) w w' := by
  have HSP := Lib.hid (fun W (h : Tabs W) => speaks12_calls W h)
  have hc1 := fun W (h : Tabs W) => clean_calls S W (by omega) h
  have hr1 := fun W => refClean_calls S W hs
  have hc2 := fun W (h : Tabs W) => clean_calls t W hts h
  rw [hV] at hc1 hr1
  rw [hV2] at hc2
  have hp := fun W => refParts_calls S W (by omega)
  rw [hL] at hp
  have HSL := Lib.hid (fun W => split_calls S W (by omega))
  have hlast := strVs_last L (baseT S).data.toList
  have hvl : (strVs (L ++ [(baseT S).data.toList])).length = L.length + 1 := by rw [strVs_length]; simp
  rw [str_back] at hlast
  generalize hD : dirT S = D at *
  generalize hBs : baseT S = Bs at *
  generalize strVs (L ++ [Bs.data.toList]) = VS at *
  have hde : D.toList.isEmpty = true := by rw [hl]; exact isEmpty_empty
  generalize L.length = q at *
  subst hn
  have HC1 := Lib.hid hc1
  have HR1 := Lib.hid hr1
  have HC2 := Lib.hid hc2
  have HPT := Lib.hid hp
  have HLA := Lib.hid hlast
  have HVL := Lib.hid hvl
  have hk0 : (0 : Int) ≤ (k : Int) := by omega
  have HCK := Lib.hid (fun W (h : Tabs W) => check_lit t 0 W h (by omega) (by rw [hck]; rfl))
  clear hV hL hc1 hr1 hc2 hp hlast hvl hD hBs hs hck hV2 hl
  go_enter Tryd.func6, Tryd.ntmps6
  go_wp2_with (go_at_call 12; refine (HSP.out _ hT).mono ?_; rintro e w1 ⟨rfl, ht1⟩; have HT1 := Lib.hid ht1; clear ht1)
  go_wp2_with (first
    | (go_at_call 19; (with_reducible refine (HC1.out _ (hT.kept HT1.out)).mono ?_); rintro e w2 ⟨rfl, ht2⟩; have HT2 := Lib.hid (HT1.out.trans ht2); clear ht2)
    | (go_at_call 20; refine (HR1.out _).mono ?_; rintro e w3 ⟨rfl, ht3⟩; have HT3 := Lib.hid (HT2.out.trans ht3); clear ht3)
    | (go_at_call 13; refine (HCK.out _ (hT.kept HT3.out)).mono ?_; rintro e w4 ⟨rfl, ht4⟩; have HT4 := Lib.hid (HT3.out.trans ht4); clear ht4)
    | (go_at_call 19; (with_reducible refine (HC2.out _ (hT.kept HT4.out)).mono ?_); rintro e w5 ⟨rfl, ht5⟩; have HT5 := Lib.hid (HT4.out.trans ht5); clear ht5)
    | (go_at_call 21; refine (HSL.out _).mono ?_; rintro e w6 ⟨rfl, n6, rfl⟩; have HT6 := Lib.hid (HT5.out.drewN n6))
    | (go_at_call 22; refine (HPT.out _).mono ?_; rintro e w7 ⟨r, rfl, hrow, hsep, ht7⟩; obtain ⟨g, off, cap, rfl, hcap, hg, hcell⟩ := hrow.addr (by rw [HVL.out]; omega); have hcl : w7.cell? ⟨g, off, none⟩ = some (.string Bs) := hcell _ _ HLA.out; rw [HVL.out] at *; have HT7 := Lib.hid (HT6.out.trans ht7); clear hrow hsep ht7 hcell))
  go_ret
  exact ⟨rfl, HT7.out⟩

set_option maxHeartbeats 2000000 in
theorem cleans_t_more (s S : ByteArray) (w : World) (hT : Tabs w) (k : Nat) (hk1 : min (s.size : Int) 500 = (k : Int)) (hkl : (k : Int) ≤ (s.size : Int)) (hS : s.extract 0 k = S) (hs : S.size ≤ 500) (t : ByteArray) (hts : t.size ≤ 300000) (hV : clnV S = (t, true)) (hck : checkB t = true) (hV2 : clnV t = (t, true))
    (L : List (List UInt8)) (hL : spl S.data.toList = L ++ [(baseT S).data.toList]) (hl : dirT S ++ ⟨#[47]⟩ ++ baseT S = S) (hn : 0 < L.length) : Calls Tryd.prog 6 #[.string s] w fun e w' => e = .returned (.bool true) ∧ Touch (fun _ => False) w w' := by
  have HSP := Lib.hid (fun W (h : Tabs W) => speaks12_calls W h)
  have hc1 := fun W (h : Tabs W) => clean_calls S W (by omega) h
  have hr1 := fun W => refClean_calls S W hs
  have hc2 := fun W (h : Tabs W) => clean_calls t W hts h
  rw [hV] at hc1 hr1
  rw [hV2] at hc2
  have hp := fun W => refParts_calls S W (by omega)
  rw [hL] at hp
  have HSL := Lib.hid (fun W => split_calls S W (by omega))
  have hlast := strVs_last L (baseT S).data.toList
  have hvl : (strVs (L ++ [(baseT S).data.toList])).length = L.length + 1 := by rw [strVs_length]; simp
  rw [str_back] at hlast
  generalize hD : dirT S = D at *
  generalize hBs : baseT S = Bs at *
  generalize strVs (L ++ [Bs.data.toList]) = VS at *
  generalize hq : L.length = q at *
  have hDz := congrArg ByteArray.size hl
  simp only [ByteArray.size_append] at hDz
  have hd1 : D.size + 1 ≤ 9223372036854775807 := by have : (⟨#[47]⟩ : ByteArray).size = 1 := rfl; omega
  have hd2 : D.size + 1 + Bs.size ≤ 9223372036854775807 := by have : (⟨#[47]⟩ : ByteArray).size = 1 := rfl; omega
  have hlb : ((D ++ ⟨#[47]⟩ ++ Bs).toList == S.toList) = true := by rw [hl]; exact strEq_self S
  have hq501 : q ≤ 500 := by
    have h1 := congrArg List.length hL
    have h2 := spl_len S.data.toList
    have h3 : S.data.toList.length = S.size := by simp
    simp only [List.length_append, List.length_cons, List.length_nil] at h1
    omega
  have hq0 : (0 : Int) < (q : Int) := by omega
  have hqm : (q : Int) + 1 - 1 = (q : Int) := by omega
  have hq1 : ((q : Int) + 1 == 1) = false := beq_eq_false_iff_ne.2 (by omega)
  have hqg : decide ((1 : Int) < (q : Int) + 1) = true := by apply decide_eq_true; omega
  have HC1 := Lib.hid hc1
  have HR1 := Lib.hid hr1
  have HC2 := Lib.hid hc2
  have HPT := Lib.hid hp
  have HLA := Lib.hid hlast
  have HVL := Lib.hid hvl
  have hk0 : (0 : Int) ≤ (k : Int) := by omega
  have HCK := Lib.hid (fun W (h : Tabs W) => check_lit t 0 W h (by omega) (by rw [hck]; rfl))
  clear hV hL hc1 hr1 hc2 hp hlast hvl hD hBs hs hck hV2 hl hq hDz hn
  go_enter Tryd.func6, Tryd.ntmps6
  go_wp2_with (go_at_call 12; refine (HSP.out _ hT).mono ?_; rintro e w1 ⟨rfl, ht1⟩; have HT1 := Lib.hid ht1; clear ht1)
  go_wp2_with (first
    | (go_at_call 19; (with_reducible refine (HC1.out _ (hT.kept HT1.out)).mono ?_); rintro e w2 ⟨rfl, ht2⟩; have HT2 := Lib.hid (HT1.out.trans ht2); clear ht2)
    | (go_at_call 20; refine (HR1.out _).mono ?_; rintro e w3 ⟨rfl, ht3⟩; have HT3 := Lib.hid (HT2.out.trans ht3); clear ht3)
    | (go_at_call 13; refine (HCK.out _ (hT.kept HT3.out)).mono ?_; rintro e w4 ⟨rfl, ht4⟩; have HT4 := Lib.hid (HT3.out.trans ht4); clear ht4)
    | (go_at_call 19; (with_reducible refine (HC2.out _ (hT.kept HT4.out)).mono ?_); rintro e w5 ⟨rfl, ht5⟩; have HT5 := Lib.hid (HT4.out.trans ht5); clear ht5)
    | (go_at_call 21; refine (HSL.out _).mono ?_; rintro e w6 ⟨rfl, n6, rfl⟩; have HT6 := Lib.hid (HT5.out.drewN n6))
    | (go_at_call 22; refine (HPT.out _).mono ?_; rintro e w7 ⟨r, rfl, hrow, hsep, ht7⟩; obtain ⟨g, off, cap, rfl, hcap, hg, hcell⟩ := hrow.addr (by rw [HVL.out]; omega); have hcl := hcell _ _ HLA.out; rw [HVL.out] at *; have HT7 := Lib.hid (HT6.out.trans ht7); clear hrow hsep ht7 hcell))
  go_ret
  exact ⟨rfl, HT7.out⟩

set_option maxHeartbeats 2000000 in
theorem cleans_f_one (s S : ByteArray) (w : World) (hT : Tabs w) (k : Nat) (hk1 : min (s.size : Int) 500 = (k : Int)) (hkl : (k : Int) ≤ (s.size : Int)) (hS : s.extract 0 k = S) (hs : S.size ≤ 500) (t : ByteArray) (hts : t.size ≤ 300000) (hV : clnV S = (t, false)) 
    (L : List (List UInt8)) (hL : spl S.data.toList = L ++ [(baseT S).data.toList]) (hl : dirT S = ByteArray.empty) (hn : L.length = 0) : Calls Tryd.prog 6 #[.string s] w fun e w' => e = .returned (.bool true) ∧ Touch (fun _ => False) w w' := by
  have HSP := Lib.hid (fun W (h : Tabs W) => speaks12_calls W h)
  have hc1 := fun W (h : Tabs W) => clean_calls S W (by omega) h
  have hr1 := fun W => refClean_calls S W hs
  have hc2 := fun W (h : Tabs W) => clean_calls t W hts h
  rw [hV] at hc1 hr1
  obtain ⟨ag, ys, hV2⟩ : ∃ ag ys, clnV t = (ag, ys) := ⟨_, _, rfl⟩
  rw [hV2] at hc2
  have hp := fun W => refParts_calls S W (by omega)
  rw [hL] at hp
  have HSL := Lib.hid (fun W => split_calls S W (by omega))
  have hlast := strVs_last L (baseT S).data.toList
  have hvl : (strVs (L ++ [(baseT S).data.toList])).length = L.length + 1 := by rw [strVs_length]; simp
  rw [str_back] at hlast
  generalize hD : dirT S = D at *
  generalize hBs : baseT S = Bs at *
  generalize strVs (L ++ [Bs.data.toList]) = VS at *
  have hde : D.toList.isEmpty = true := by rw [hl]; exact isEmpty_empty
  generalize L.length = q at *
  subst hn
  have HC1 := Lib.hid hc1
  have HR1 := Lib.hid hr1
  have HC2 := Lib.hid hc2
  have HPT := Lib.hid hp
  have HLA := Lib.hid hlast
  have HVL := Lib.hid hvl
  have hk0 : (0 : Int) ≤ (k : Int) := by omega
  clear hV hL hc1 hr1 hc2 hp hlast hvl hD hBs hs hV2 hl
  go_enter Tryd.func6, Tryd.ntmps6
  go_wp2_with (go_at_call 12; refine (HSP.out _ hT).mono ?_; rintro e w1 ⟨rfl, ht1⟩; have HT1 := Lib.hid ht1; clear ht1)
  go_wp2_with (first
    | (go_at_call 19; (with_reducible refine (HC1.out _ (hT.kept HT1.out)).mono ?_); rintro e w2 ⟨rfl, ht2⟩; have HT2 := Lib.hid (HT1.out.trans ht2); clear ht2)
    | (go_at_call 20; refine (HR1.out _).mono ?_; rintro e w3 ⟨rfl, ht3⟩; have HT3 := Lib.hid (HT2.out.trans ht3); clear ht3)
    | (go_at_call 19; (with_reducible refine (HC2.out _ (hT.kept HT3.out)).mono ?_); rintro e w5 ⟨rfl, ht5⟩; have HT5 := Lib.hid (HT3.out.trans ht5); clear ht5)
    | (go_at_call 21; refine (HSL.out _).mono ?_; rintro e w6 ⟨rfl, n6, rfl⟩; have HT6 := Lib.hid (HT5.out.drewN n6))
    | (go_at_call 22; refine (HPT.out _).mono ?_; rintro e w7 ⟨r, rfl, hrow, hsep, ht7⟩; obtain ⟨g, off, cap, rfl, hcap, hg, hcell⟩ := hrow.addr (by rw [HVL.out]; omega); have hcl : w7.cell? ⟨g, off, none⟩ = some (.string Bs) := hcell _ _ HLA.out; rw [HVL.out] at *; have HT7 := Lib.hid (HT6.out.trans ht7); clear hrow hsep ht7 hcell))
  go_ret
  exact ⟨rfl, HT7.out⟩

set_option maxHeartbeats 2000000 in
theorem cleans_f_more (s S : ByteArray) (w : World) (hT : Tabs w) (k : Nat) (hk1 : min (s.size : Int) 500 = (k : Int)) (hkl : (k : Int) ≤ (s.size : Int)) (hS : s.extract 0 k = S) (hs : S.size ≤ 500) (t : ByteArray) (hts : t.size ≤ 300000) (hV : clnV S = (t, false)) 
    (L : List (List UInt8)) (hL : spl S.data.toList = L ++ [(baseT S).data.toList]) (hl : dirT S ++ ⟨#[47]⟩ ++ baseT S = S) (hn : 0 < L.length) : Calls Tryd.prog 6 #[.string s] w fun e w' => e = .returned (.bool true) ∧ Touch (fun _ => False) w w' := by
  have HSP := Lib.hid (fun W (h : Tabs W) => speaks12_calls W h)
  have hc1 := fun W (h : Tabs W) => clean_calls S W (by omega) h
  have hr1 := fun W => refClean_calls S W hs
  have hc2 := fun W (h : Tabs W) => clean_calls t W hts h
  rw [hV] at hc1 hr1
  obtain ⟨ag, ys, hV2⟩ : ∃ ag ys, clnV t = (ag, ys) := ⟨_, _, rfl⟩
  rw [hV2] at hc2
  have hp := fun W => refParts_calls S W (by omega)
  rw [hL] at hp
  have HSL := Lib.hid (fun W => split_calls S W (by omega))
  have hlast := strVs_last L (baseT S).data.toList
  have hvl : (strVs (L ++ [(baseT S).data.toList])).length = L.length + 1 := by rw [strVs_length]; simp
  rw [str_back] at hlast
  generalize hD : dirT S = D at *
  generalize hBs : baseT S = Bs at *
  generalize strVs (L ++ [Bs.data.toList]) = VS at *
  generalize hq : L.length = q at *
  have hDz := congrArg ByteArray.size hl
  simp only [ByteArray.size_append] at hDz
  have hd1 : D.size + 1 ≤ 9223372036854775807 := by have : (⟨#[47]⟩ : ByteArray).size = 1 := rfl; omega
  have hd2 : D.size + 1 + Bs.size ≤ 9223372036854775807 := by have : (⟨#[47]⟩ : ByteArray).size = 1 := rfl; omega
  have hlb : ((D ++ ⟨#[47]⟩ ++ Bs).toList == S.toList) = true := by rw [hl]; exact strEq_self S
  have hq501 : q ≤ 500 := by
    have h1 := congrArg List.length hL
    have h2 := spl_len S.data.toList
    have h3 : S.data.toList.length = S.size := by simp
    simp only [List.length_append, List.length_cons, List.length_nil] at h1
    omega
  have hq0 : (0 : Int) < (q : Int) := by omega
  have hqm : (q : Int) + 1 - 1 = (q : Int) := by omega
  have hq1 : ((q : Int) + 1 == 1) = false := beq_eq_false_iff_ne.2 (by omega)
  have hqg : decide ((1 : Int) < (q : Int) + 1) = true := by apply decide_eq_true; omega
  have HC1 := Lib.hid hc1
  have HR1 := Lib.hid hr1
  have HC2 := Lib.hid hc2
  have HPT := Lib.hid hp
  have HLA := Lib.hid hlast
  have HVL := Lib.hid hvl
  have hk0 : (0 : Int) ≤ (k : Int) := by omega
  clear hV hL hc1 hr1 hc2 hp hlast hvl hD hBs hs hV2 hl hq hDz hn
  go_enter Tryd.func6, Tryd.ntmps6
  go_wp2_with (go_at_call 12; refine (HSP.out _ hT).mono ?_; rintro e w1 ⟨rfl, ht1⟩; have HT1 := Lib.hid ht1; clear ht1)
  go_wp2_with (first
    | (go_at_call 19; (with_reducible refine (HC1.out _ (hT.kept HT1.out)).mono ?_); rintro e w2 ⟨rfl, ht2⟩; have HT2 := Lib.hid (HT1.out.trans ht2); clear ht2)
    | (go_at_call 20; refine (HR1.out _).mono ?_; rintro e w3 ⟨rfl, ht3⟩; have HT3 := Lib.hid (HT2.out.trans ht3); clear ht3)
    | (go_at_call 19; (with_reducible refine (HC2.out _ (hT.kept HT3.out)).mono ?_); rintro e w5 ⟨rfl, ht5⟩; have HT5 := Lib.hid (HT3.out.trans ht5); clear ht5)
    | (go_at_call 21; refine (HSL.out _).mono ?_; rintro e w6 ⟨rfl, n6, rfl⟩; have HT6 := Lib.hid (HT5.out.drewN n6))
    | (go_at_call 22; refine (HPT.out _).mono ?_; rintro e w7 ⟨r, rfl, hrow, hsep, ht7⟩; obtain ⟨g, off, cap, rfl, hcap, hg, hcell⟩ := hrow.addr (by rw [HVL.out]; omega); have hcl := hcell _ _ HLA.out; rw [HVL.out] at *; have HT7 := Lib.hid (HT6.out.trans ht7); clear hrow hsep ht7 hcell))
  go_ret
  exact ⟨rfl, HT7.out⟩

theorem cleanC_size {S t : ByteArray} (h : cleanC S = some t) : t.size ≤ S.size := by
  unfold cleanC at h
  split at h
  · cases h
  · rename_i L hL
    split at h
    · obtain rfl := Option.some.inj h
      exact joinT_le S L hL
    · cases h
theorem cleans_calls (s : ByteArray) (w : World) (hT : Tabs w) : Calls Tryd.prog 6 #[.string s] w fun e w' => e = .returned (.bool true) ∧ Touch (fun _ => False) w w' := by
  have hS : (s.extract 0 (min s.size 500)).size ≤ 500 := by rw [ByteArray.size_extract]; omega
  obtain ⟨L, hL, h1, h2⟩ := split_spec (s.extract 0 (min s.size 500))
  have hk1 : min (s.size : Int) 500 = ((min s.size 500 : Nat) : Int) := by omega
  have hkl : ((min s.size 500 : Nat) : Int) ≤ (s.size : Int) := by omega
  cases hc : cleanC (s.extract 0 (min s.size 500)) with
  | none =>
    have hV : clnV (s.extract 0 (min s.size 500)) = (ByteArray.empty, false) := by unfold clnV; rw [hc]
    by_cases hl : L = []
    · exact cleans_f_one s _ w hT _ hk1 hkl rfl hS _ (by decide) hV L hL (h1 hl) (by rw [hl]; rfl)
    · exact cleans_f_more s _ w hT _ hk1 hkl rfl hS _ (by decide) hV L hL (h2 hl) (List.length_pos_iff.2 hl)
  | some t =>
    have hV : clnV (s.extract 0 (min s.size 500)) = (t, true) := by unfold clnV; rw [hc]
    have hV2 : clnV t = (t, true) := by unfold clnV; rw [cleanC_again hc]
    have hz := cleanC_size hc
    by_cases hl : L = []
    · exact cleans_t_one s _ w hT _ hk1 hkl rfl hS _ (by omega) hV (cleanC_check hc) hV2 L hL (h1 hl) (by rw [hl]; rfl)
    · exact cleans_t_more s _ w hT _ hk1 hkl rfl hS _ (by omega) hV (cleanC_check hc) hV2 L hL (h2 hl) (List.length_pos_iff.2 hl)
end Go.Proofs.YtdohhmaggeocjaaDoor
