
/- The contracts of the reference's check, and of both answers to which directory a name is below. -/
import Derived.Test.YtmhigecchligcaaDoorNamI
import Derived.Lib.IndexLaws
namespace Go.Proofs.YtmhigecchligcaaDoor
open Go Go.RowKit
set_option maxRecDepth 100000

theorem ext_get? (S : ByteArray) (b e k : Nat) (he : e ≤ S.size) : (S.extract b e).data.toList[k]? = if b + k < e then S.data.toList[b + k]? else none := by
  have he' : e ≤ S.data.size := he
  rw [ByteArray.data_extract, Array.toList_extract]
  by_cases h : b + k < e
  · rw [if_pos h, List.extract_eq_take_drop, List.getElem?_take_of_lt (by omega), List.getElem?_drop]
  · rw [if_neg h, List.getElem?_eq_none]
    simp
    omega

theorem endAt_eq (S : ByteArray) (b i : Nat) (hb : b ≤ i) (hi : i ≤ S.size) (hn : ∀ j, b ≤ j → j < i → S.data.toList[j]? ≠ some 47) (hx : i = S.size ∨ S.data.toList[i]? = some 47) : endAt S b = i := by
  have hge := Lib.indexByte_ge (S.extract b S.size).data.toList 47
  unfold endAt
  rcases hI : Lib.indexByte (S.extract b S.size).data.toList 47 with o | o
  · have h := Lib.indexByte_some (l := (S.extract b S.size).data.toList) (c := 47) (o := o) hI
    have h1 := h.1
    rw [ext_get? S b S.size o (Nat.le_refl _)] at h1
    rw [if_pos (by simp)]
    by_cases ho : b + o < S.size
    · rw [if_pos ho] at h1
      have h2 : ¬ b + o < i := fun hc => hn (b + o) (by omega) hc h1
      rcases hx with rfl | hx
      · omega
      · have h3 : ¬ i - b < o := fun hc => by
          have := h.2 (i - b) hc
          rw [ext_get? S b S.size _ (Nat.le_refl _), if_pos (by omega), show b + (i - b) = i by omega] at this
          exact this hx
        simp
        omega
    · rw [if_neg ho] at h1; cases h1
  · have h1 : Lib.indexByte (S.extract b S.size).data.toList 47 = -1 := by rw [hI] at hge ⊢; omega
    rw [if_neg (by omega)]
    rcases hx with rfl | hx
    · rfl
    · have hlt : i < S.size := by
        have := (List.getElem?_eq_some_iff.1 hx).1
        simpa using this
      have := Lib.indexByte_none h1 (i - b)
      rw [ext_get? S b S.size _ (Nat.le_refl _), if_pos (by omega), show b + (i - b) = i by omega] at this
      exact absurd hx this

theorem byte_get (S : ByteArray) (i : Nat) (h : i < S.size) : S.data.toList[i]? = some S[i] := by
  rw [List.getElem?_eq_getElem (by simpa using h)]; rfl

theorem ext_self (S : ByteArray) (a : Nat) : S.extract a a = ByteArray.empty := by
  apply ByteArray.ext
  rw [ByteArray.data_extract]
  apply Array.ext'
  simp

theorem ext_snoc (S : ByteArray) (b i : Nat) (h : b ≤ i) : S.extract b i ++ S.extract i (i + 1) = S.extract b (i + 1) := by
  rw [ByteArray.extract_append_extract]
  congr 1 <;> omega

theorem checkB_empty (S : ByteArray) (h : S.size < 1) : checkB S = false := by
  have h0 : S.size = 0 := by omega
  have : (ptsA S 0).all (fun x => goodPart x.t) = false := by
    rw [ptsA_step S 0 (by omega), List.all_cons]
    have he : endAt S 0 = 0 := by have := endAt_le S 0; omega
    have : (ptAt S 0).t = ByteArray.empty := by
      show S.extract 0 (endAt S 0) = _
      rw [he, ext_self]
    rw [this, show goodPart ByteArray.empty = false by decide +kernel]
    rfl
  unfold checkB
  rw [this]; simp

/-- Are all parts from a place on such as may be? -/
def goodsB (S : ByteArray) (b : Nat) : Bool := (ptsA S b).all fun x => goodPart x.t
theorem goodsB_step (S : ByteArray) (b i : Nat) (hb : b ≤ i) (hi : i ≤ S.size) (hn : ∀ j, b ≤ j → j < i → S.data.toList[j]? ≠ some 47) (hx : i = S.size ∨ S.data.toList[i]? = some 47) :
    goodsB S b = (goodPart (S.extract b i) && goodsB S (i + 1)) := by
  unfold goodsB
  rw [ptsA_step S b (by omega), List.all_cons]
  have he := endAt_eq S b i hb hi hn hx
  show (goodPart (S.extract b (endAt S b)) && _) = _
  rw [he]
theorem goodsB_end (S : ByteArray) (b : Nat) (h : S.size < b) : goodsB S b = true := by
  unfold goodsB
  rw [ptsA_end S b (by omega)]; rfl


theorem checkB_of (S : ByteArray) (h1 : S.size ≤ 65535) (h3 : (Lib.validD S.data.toList && !barB S) = true) : checkB S = goodsB S 0 := by
  unfold checkB goodsB
  rw [← Bool.and_assoc (Lib.validD _), h3]
  simp [h1]
theorem checkB_not (S : ByteArray) (h3 : (Lib.validD S.data.toList && !barB S) = false) : checkB S = false := by
  unfold checkB
  rw [← Bool.and_assoc (Lib.validD _), h3]
  simp

set_option maxHeartbeats 4000000 in
theorem refCheck_calls (S : ByteArray) (w : World) (hs : S.size ≤ 1000000) : Calls Tryd.prog 10 #[.string S] w fun e w' => e = .returned (.bool (checkB S)) ∧ w = w' := by
  have HG0 : ∀ W, Calls Tryd.prog 24 #[.string S] W fun e w' => e = .returned (.bool (Lib.validD S.data.toList && !barB S)) ∧ W = w' := fun W => by
    have := refGood_calls S W hs
    rwa [good_eq] at this
  have HG := Lib.hid HG0
  clear HG0
  have hs' : (S.size : Int) ≤ 1000000 := by omega
  by_cases h1 : S.size < 1
  · rw [checkB_empty S h1]
    have h1' : (S.size : Int) < 1 := by omega
    go_enter Tryd.func10, Tryd.ntmps10
    go_wp2
    go_ret
    exact ⟨rfl, rfl⟩
  have h1' : ¬ (S.size : Int) < 1 := by omega
  by_cases h2 : 65535 < S.size
  · have : checkB S = false := by unfold checkB; simp; omega
    rw [this]
    have h2' : (65535 : Int) < (S.size : Int) := by omega
    go_enter Tryd.func10, Tryd.ntmps10
    go_wp2
    go_ret
    exact ⟨rfl, rfl⟩
  have h2' : ¬ (65535 : Int) < (S.size : Int) := by omega
  cases h3 : (Lib.validD S.data.toList && !barB S)
  · rw [checkB_not S h3]
    rw [h3] at HG
    clear h3
    go_enter Tryd.func10, Tryd.ntmps10
    go_wp2_with (go_at_call 24; refine (HG.out _).mono ?_; rintro e w1 ⟨rfl, rfl⟩)
    go_ret
    exact ⟨rfl, rfl⟩
  rw [checkB_of S (by omega) h3]
  rw [h3] at HG
  clear h3
  obtain ⟨R, hR⟩ : ∃ R, goodsB S 0 = R := ⟨_, rfl⟩
  rw [hR]
  have HR := Lib.hid hR
  clear hR
  go_enter Tryd.func10, Tryd.ntmps10
  go_wp2_with (go_at_call 24; refine (HG.out _).mono ?_; rintro e w1 ⟨rfl, rfl⟩)
  go_loop [3, 4] (fun p i => ∃ b k : Nat, p = .string (S.extract b k) ∧ i = .int .i64 (k : Int) ∧ b ≤ k ∧ k ≤ S.size + 1 ∧ (k = S.size + 1 → b = k) ∧ (∀ j, b ≤ j → j < k → S.data.toList[j]? ≠ some 47) ∧ goodsB S b = R) (fun _ i => S.size + 2 - (intOf i).toNat)
  case atStart => exact ⟨0, 0, by rw [ext_self]; rfl, rfl, Nat.le_refl _, by omega, by omega, fun j _ h => by omega, HR.out⟩
  case round =>
    obtain ⟨b, k, rfl, rfl, hbk, hk, hend, hno, hgo⟩ := hrel
    have HNO := Lib.hid hno
    have HGO := Lib.hid hgo
    have HEND := Lib.hid hend
    clear hno hgo hend
    by_cases hk1 : k ≤ S.size
    · have hk1' : (k : Int) ≤ (S.size : Int) := by omega
      obtain ⟨P, hP⟩ : ∃ P, S.extract b k = P := ⟨_, rfl⟩
      have hPz : (P.size : Int) ≤ 1000000 := by rw [← hP, ByteArray.size_extract]; omega
      rw [hP]
      have HP := Lib.hid hP
      clear hP
      by_cases hplain : k < S.size ∧ S.data.toList[k]? ≠ some 47
      · obtain ⟨hlt, hne⟩ := hplain
        have hlt' : (k : Int) < (S.size : Int) := by omega
        have hc : ((S[k].toNat : Int) == 47) = false := by
          rw [byte_get S k hlt] at hne
          simp
          intro h
          apply hne
          congr 1
          apply UInt8.toNat_inj.1
          show S[k].toNat = 47
          omega
        have HNE := Lib.hid hne
        clear hne
        go_wp2
        go_round
        case rel => exact ⟨b, k + 1, by rw [← HP.out, ext_snoc S b k hbk], by go_num, by omega, by omega, by omega, fun j h1 h2 => (by
          by_cases hj : j < k
          · exact HNO.out j h1 hj
          · obtain rfl : j = k := by omega
            exact HNE.out), HGO.out⟩
        case measure => simp [intOf]; omega
      · have hx : k = S.size ∨ S.data.toList[k]? = some 47 := by
          by_cases hlt : k < S.size
          · right
            exact Classical.byContradiction fun h => hplain ⟨hlt, h⟩
          · left; omega
        have HSTEP := Lib.hid (goodsB_step S b k hbk hk1 HNO.out hx)
        rw [HP.out, HGO.out] at HSTEP
        have HW := Lib.hid (part_ways P)
        rcases hx with hx | hx
        · have hlt' : ¬ (k : Int) < (S.size : Int) := by omega
          have hx' : (k : Int) = (S.size : Int) := by omega
          clear hplain
          rcases HW.out with ⟨g1, g4⟩ | ⟨g1, g2, g4⟩ | ⟨g1, g2, g3, g4⟩ | ⟨g1, g2, g3, g4⟩
          all_goals
            rw [g4] at HSTEP
            clear g4
          · have hr : R = false := by rw [HSTEP.out]; rfl
            subst hr
            go_wp2
            go_ret
            exact ⟨rfl, rfl⟩
          · have hr : R = false := by rw [HSTEP.out]; rfl
            subst hr
            go_wp2
            go_ret
            exact ⟨rfl, rfl⟩
          · have hr : R = false := by rw [HSTEP.out]; rfl
            subst hr
            go_wp2
            go_ret
            exact ⟨rfl, rfl⟩
          · go_wp2
            go_round
            case rel => exact ⟨k + 1, k + 1, by rw [ext_self]; rfl, by go_num, Nat.le_refl _, by omega, fun _ => rfl, fun j h1 h2 => by omega, by rw [HSTEP.out]; rfl⟩
            case measure => simp [intOf]; omega
        · have hlt : k < S.size := by
            have := (List.getElem?_eq_some_iff.1 hx).1
            simpa using this
          have hlt' : (k : Int) < (S.size : Int) := by omega
          have hc : ((S[k].toNat : Int) == 47) = true := by
            rw [byte_get S k hlt] at hx
            have := Option.some.inj hx
            rw [this]; rfl
          clear hplain hx
          rcases HW.out with ⟨g1, g4⟩ | ⟨g1, g2, g4⟩ | ⟨g1, g2, g3, g4⟩ | ⟨g1, g2, g3, g4⟩
          all_goals
            rw [g4] at HSTEP
            clear g4
          · have hr : R = false := by rw [HSTEP.out]; rfl
            subst hr
            go_wp2
            go_ret
            exact ⟨rfl, rfl⟩
          · have hr : R = false := by rw [HSTEP.out]; rfl
            subst hr
            go_wp2
            go_ret
            exact ⟨rfl, rfl⟩
          · have hr : R = false := by rw [HSTEP.out]; rfl
            subst hr
            go_wp2
            go_ret
            exact ⟨rfl, rfl⟩
          · go_wp2
            go_round
            case rel => exact ⟨k + 1, k + 1, by rw [ext_self]; rfl, by go_num, Nat.le_refl _, by omega, fun _ => rfl, fun j h1 h2 => by omega, by rw [HSTEP.out]; rfl⟩
            case measure => simp [intOf]; omega
    · have hk1' : ¬ (k : Int) ≤ (S.size : Int) := by omega
      have hr : R = true := by
        rw [← HGO.out]
        exact goodsB_end S b (by have := HEND.out (by omega); omega)
      subst hr
      clear HR
      go_wp2
      go_ret
      exact ⟨rfl, rfl⟩

/-- Does a text begin with another one and a slash? -/
def belowB (s d : ByteArray) : Bool := decide (d.size < s.size) && ((s.extract 0 d.size).toList == d.toList && decide (s.data.toList[d.size]? = some 47))

theorem byte47 (S : ByteArray) (k : Nat) (h : k < S.size) : ((S[k].toNat : Int) == 47) = decide (S.data.toList[k]? = some 47) := by
  rw [byte_get S k h, Bool.eq_iff_iff]
  simp only [beq_iff_eq, decide_eq_true_eq, Option.some.injEq]
  constructor
  · intro h
    apply UInt8.toNat_inj.1
    show S[k].toNat = 47
    omega
  · intro h
    rw [h]; rfl

set_option maxHeartbeats 1000000 in
theorem below_calls (s d : ByteArray) (w : World) (_hs : s.size ≤ 9223372036854775807) (hd : d.size ≤ 9223372036854775807) : Calls Tryd.prog 12 #[.string s, .string d] w fun e w' => e = .returned (.bool (belowB s d)) ∧ w = w' := by
  unfold belowB
  by_cases h : d.size < s.size
  · have h' : (d.size : Int) < (s.size : Int) := by omega
    have hc := byte47 s d.size h
    obtain ⟨E, hE⟩ : ∃ E, ((s.extract 0 d.size).toList == d.toList) = E := ⟨_, rfl⟩
    obtain ⟨C, hC⟩ : ∃ C, decide (s.data.toList[d.size]? = some 47) = C := ⟨_, rfl⟩
    rw [hC] at hc
    rw [hE, hC]
    clear hC
    simp only [h, decide_true, Bool.true_and]
    cases C
    · go_enter Tryd.func12, Tryd.ntmps12
      go_wp2
      go_ret
      exact ⟨ret_bool (by simp), rfl⟩
    · go_enter Tryd.func12, Tryd.ntmps12
      go_wp2
      go_ret
      exact ⟨ret_bool (by simp), rfl⟩
  · have h' : ¬ (d.size : Int) < (s.size : Int) := by omega
    simp only [h, decide_false, Bool.false_and]
    go_enter Tryd.func12, Tryd.ntmps12
    go_wp2
    go_ret
    exact ⟨rfl, rfl⟩

set_option maxHeartbeats 1000000 in
theorem refBelow_calls (s d : ByteArray) (w : World) (_hs : s.size ≤ 9223372036854775807) (hd : d.size ≤ 9223372036854775807) : Calls Tryd.prog 13 #[.string s, .string d] w fun e w' => e = .returned (.bool (belowB s d)) ∧ w = w' := by
  unfold belowB
  by_cases h : d.size < s.size
  · have h' : (d.size : Int) < (s.size : Int) := by omega
    have hc := byte47 s d.size h
    obtain ⟨E, hE⟩ : ∃ E, ((s.extract 0 d.size).toList == d.toList) = E := ⟨_, rfl⟩
    obtain ⟨C, hC⟩ : ∃ C, decide (s.data.toList[d.size]? = some 47) = C := ⟨_, rfl⟩
    rw [hC] at hc
    rw [hE, hC]
    clear hC
    simp only [h, decide_true, Bool.true_and]
    cases E
    · go_enter Tryd.func13, Tryd.ntmps13
      go_wp2
      go_ret
      exact ⟨ret_bool (by simp), rfl⟩
    · go_enter Tryd.func13, Tryd.ntmps13
      go_wp2
      go_ret
      exact ⟨ret_bool (by simp), rfl⟩
  · have h' : ¬ (d.size : Int) < (s.size : Int) := by omega
    simp only [h, decide_false, Bool.false_and]
    go_enter Tryd.func13, Tryd.ntmps13
    go_wp2
    go_ret
    exact ⟨rfl, rfl⟩
end Go.Proofs.YtmhigecchligcaaDoor
