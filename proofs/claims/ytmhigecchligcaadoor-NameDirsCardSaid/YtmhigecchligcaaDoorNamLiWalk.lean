/- The walk of layer 12's statement which list of names may be. -/
import Derived.Test.YtmhigecchligcaaDoorNamY
namespace Go.Proofs.YtmhigecchligcaaDoor
open Go Go.RowKit
set_option maxRecDepth 100000

theorem belowB_iff (s d : ByteArray) : belowB s d = true ↔ ∃ c, s.data.toList = d.data.toList ++ 47 :: c := by
  unfold belowB
  simp only [Bool.and_eq_true, decide_eq_true_eq, beq_iff_eq]
  have hd : d.data.toList.length = d.size := by simp
  have hs : s.data.toList.length = s.size := by simp
  constructor
  · rintro ⟨h1, h2, h3⟩
    refine ⟨s.data.toList.drop (d.size + 1), ?_⟩
    have e : s.data.toList.take d.size = d.data.toList := by
      rw [ByteArray.toList_eq, ByteArray.toList_eq] at h2
      rw [← h2]
      simp [ByteArray.data_extract]
    obtain ⟨hlt, hx⟩ := List.getElem?_eq_some_iff.1 h3
    rw [← e]
    conv => lhs; rw [← List.take_append_drop d.size s.data.toList]
    rw [List.drop_eq_getElem_cons hlt, hx]
  · rintro ⟨c, hc⟩
    have hl : s.size = d.size + (c.length + 1) := by rw [← hs, hc, List.length_append, List.length_cons, hd]
    refine ⟨by omega, ?_, ?_⟩
    · rw [ByteArray.toList_eq, ByteArray.toList_eq]
      have : (s.extract 0 d.size).data.toList = s.data.toList.take d.size := by simp [ByteArray.data_extract]
      rw [this, hc, ← hd, List.take_left']
      rfl
    · rw [hc, List.getElem?_append_right (by omega), hd, Nat.sub_self]
      rfl
theorem fits_iff (M : List ByteArray) (i : Nat) (q : Path) : fitsT (nm M i) q ↔ ∀ j t, j < i → M[j]? = some t → ¬ spl t.data.toList <+: q ∧ ¬ q <+: spl t.data.toList := by
  unfold fitsT nm
  constructor
  · intro h j t hj ht
    refine h _ (List.mem_map.2 ⟨t, List.mem_of_getElem? (i := j) ?_, rfl⟩)
    rw [List.getElem?_take, if_pos hj]
    exact ht
  · intro h p hp
    obtain ⟨t, ht, rfl⟩ := List.mem_map.1 hp
    obtain ⟨j, hj⟩ := List.mem_iff_getElem?.1 ht
    rw [List.getElem?_take] at hj
    split at hj
    · exact h j t (by assumption) hj
    · cases hj
/-- Two names that can't stand beside one another. -/
def badP (s t : ByteArray) : Prop := t = s ∨ belowB s t = true ∨ belowB t s = true
theorem badP_iff (s t : ByteArray) : badP s t ↔ (spl t.data.toList <+: spl s.data.toList ∨ spl s.data.toList <+: spl t.data.toList) := by
  rw [pre_iff, pre_iff]
  unfold badP
  rw [belowB_iff, belowB_iff]
  constructor
  · rintro (rfl | h | h)
    · exact .inl (.inl rfl)
    · exact .inl (.inr h)
    · exact .inr (.inr h)
  · rintro ((h | h) | (h | h))
    · exact .inl (bytes_inj h)
    · exact .inr (.inl h)
    · exact .inl (bytes_inj h.symm)
    · exact .inr (.inr h)
theorem fits_bad (M : List ByteArray) (i : Nat) (s : ByteArray) : fitsT (nm M i) (spl s.data.toList) ↔ ∀ j t, j < i → M[j]? = some t → ¬ badP s t := by
  rw [fits_iff]
  refine forall_congr' fun j => forall_congr' fun t => forall_congr' fun _ => forall_congr' fun _ => ?_
  rw [badP_iff, not_or]
theorem AllIs.first {M : List ByteArray} {a e i : Nat} {s : ByteArray} (h : AllIs M a e) (hs : M[i]? = some s) (hg : ∀ j, j < i → goodAt M j) (hb : ¬ goodAt M i) :
    a = i ∧ ((checkB s = false ∧ e = 9) ∨ (checkB s = true ∧ ¬ fitsT (nm M i) (spl s.data.toList) ∧ e = 10)) := by
  rcases h with ⟨_, _, h⟩ | ⟨s', hs', hg', h⟩
  · exact absurd (h i) hb
  · have hna : ¬ goodAt M a := fun hga => by
      obtain ⟨h1, h2⟩ := hga s' hs'
      rcases h with ⟨h3, _⟩ | ⟨_, h3, _⟩
      · rw [h1] at h3; cases h3
      · exact h3 h2
    have : a = i := by
      rcases Nat.lt_trichotomy a i with h1 | h1 | h1
      · exact absurd (hg a h1) hna
      · exact h1
      · exact absurd (hg' i h1) hb
    subst this
    obtain rfl := Option.some.inj (hs.symm.trans hs')
    exact ⟨rfl, h⟩
theorem AllIs.none {M : List ByteArray} {a e : Nat} (h : AllIs M a e) (hg : ∀ j, goodAt M j) : a = 0 ∧ e = 0 := by
  rcases h with ⟨h1, h2, _⟩ | ⟨s, hs, _, h⟩
  · exact ⟨h1, h2⟩
  · obtain ⟨h1, h2⟩ := hg a s hs
    rcases h with ⟨h3, _⟩ | ⟨_, h3, _⟩
    · rw [h1] at h3; cases h3
    · exact absurd h2 h3
theorem tEq2 (s t : ByteArray) : (t.toList == s.toList) = decide (t = s) := by
  rw [ByteArray.toList_eq, ByteArray.toList_eq]
  by_cases h : t = s
  · subst h; simp
  · rw [decide_eq_false h]
    exact beq_eq_false_iff_ne.2 (fun e => h (bytes_inj e))

set_option maxHeartbeats 2000000 in
theorem lists_calls (L : List ByteArray) (v : Value) (w : World) (hv : Reads w v (strs L)) (hsz : ∀ s ∈ L, s.size ≤ 9223372036854775807) (hT : Tabs w) :
    Calls Tryd.prog 4 #[v] w fun e w' => e = .returned (.bool true) ∧ Touch (fun _ => False) w w' := by
  obtain ⟨va, vc, hve, hvc, hvm⟩ := hv.form
  rw [strs_length] at hve hvc
  subst hve
  obtain ⟨q, hq⟩ : ∃ q : Nat, q = min L.length 40 := ⟨_, rfl⟩
  obtain ⟨n, hn⟩ : ∃ n : Nat, n = L.length := ⟨_, rfl⟩
  rw [← hn] at hq hvc ⊢
  have hmin : min (n : Int) 40 = (q : Int) := by omega
  have hmin2 : (if (40 : Int) < (n : Int) then (40 : Int) else (n : Int)) = (q : Int) := by split <;> omega
  have hq0 : (0 : Int) ≤ (q : Int) := by omega
  have hqn : (q : Int) ≤ (n : Int) := by omega
  have hqc : (q : Int) ≤ (vc : Int) := by omega
  have hq40 : q ≤ 40 := by omega
  have hup := hv.upto (q := q) (by omega)
  rw [show (strs L).take q = strs (L.take q) by simp [strs, List.map_take]] at hup
  have hml : (L.take q).length = q := by rw [List.length_take, ← hn]; omega
  have hms : ∀ s ∈ L.take q, s.size ≤ 9223372036854775807 := fun s hs => hsz s (List.mem_of_mem_take hs)
  generalize L.take q = M at hup hml hms
  skip
  have HV := Lib.hid hup
  have HML := Lib.hid hml
  have HMS := Lib.hid hms
  have HTB := Lib.hid hT
  have HAL := Lib.hid (fun W (h : Touch (fun _ => False) w W) => all_calls M _ W (HV.out.still h) hms (by omega) (hT.kept h))
  clear hup hml hms hv hsz hT hq hn
  go_enter Tryd.func4, Tryd.ntmps4
  go_wp2_with (first
    | (go_at_call 8; refine (speaks12_calls _ HTB.out).mono ?_; rintro e w1 ⟨rfl, ht1⟩; have HT1 := Lib.hid ht1; clear ht1)
    | (go_at_call 14; refine (HAL.out _ HT1.out).mono ?_; rintro e w2 ⟨ht2, a, er, rfl, hal⟩; have HT2 := Lib.hid (HT1.out.trans ht2); have HIS := Lib.hid hal; clear ht2 hal))
  go_loopw [5] (fun iv wr => ∃ i : Nat, iv = .int .i64 (i : Nat) ∧ i ≤ q ∧ RowKit.Hid (∀ j, j < i → goodAt M j) ∧ RowKit.Hid (Touch (fun _ => False) w wr)) (fun iv _ => q - (intOf iv).toNat)
  case atStart => exact ⟨0, rfl, Nat.zero_le _, Lib.hid (fun j h => absurd h (Nat.not_lt_zero j)), HT2⟩
  case round =>
    obtain ⟨i, rfl, hi, HG, HT⟩ := hrel
    clear HT1 HT2
    have hi0 : (0 : Int) ≤ (i : Int) := by omega
    by_cases hlt : i < q
    · have hi1 : (i : Int) < (q : Int) := by omega
      obtain ⟨s, hs⟩ : ∃ s, M[i]? = some s := ⟨_, List.getElem?_eq_getElem (by rw [HML.out]; exact hlt)⟩
      obtain ⟨g, off, cap, hge, _, _, _, hcs⟩ := HV.out.addr (by rw [strs_length, HML.out]; omega)
      rw [strs_length, HML.out] at hge
      injection hge with hg1 _ hg2
      subst hg1 hg2
      have hc0 := hcs i (.string s) (by simp [strs, hs])
      have HC0 := Lib.hid hc0
      have HCS := Lib.hid hcs
      have hc := HT.out.cell hc0 id
      have HS := Lib.hid hs
      clear hcs hs hc0
      by_cases hbig : 500 < s.size
      · have hbI : (500 : Int) < (s.size : Int) := by omega
        go_wp2_with fail
        go_ret
        exact ⟨rfl, HT.out⟩
      · have hbI : ¬ (500 : Int) < (s.size : Int) := by omega
        have HRC := Lib.hid (fun W => refCheck_calls s W (by omega))
        cases hck : checkB s
        · rw [hck] at HRC
          have hfst := HIS.out.first HS.out HG.out (fun h => by have := (h s HS.out).1; rw [hck] at this; cases this)
          have ha : a = i := hfst.1
          have her : er = 9 := by
            rcases hfst.2 with h | ⟨h, _⟩
            · exact h.2
            · rw [hck] at h; cases h
          subst ha
          subst her
          clear hfst hck
          go_wp2_with (go_at_call 10; refine (HRC.out _).mono ?_; rintro e w3 ⟨rfl, rfl⟩)
          go_ret
          exact ⟨rfl, HT.out⟩
        · rw [hck] at HRC
          have HCK := Lib.hid hck
          clear hck
          go_wp2_with (go_at_call 10; refine (HRC.out _).mono ?_; rintro e w3 ⟨rfl, rfl⟩)
          go_loopw [6] (fun kv wx => ∃ k : Nat, kv = .int .i64 (k : Nat) ∧ k ≤ i ∧ RowKit.Hid (∀ j t, j < k → M[j]? = some t → ¬ badP s t) ∧ RowKit.Hid (Touch (fun _ => False) w wx)) (fun kv _ => i - (intOf kv).toNat)
          case atStart => exact ⟨0, rfl, Nat.zero_le _, Lib.hid (fun j t h => absurd h (Nat.not_lt_zero j)), HT⟩
          case round =>
            obtain ⟨k, rfl, hk, HNB, HTk⟩ := hrel
            clear hc
            have hc := HTk.out.cell HC0.out id
            by_cases hkl : k < i
            · have hk0 : (0 : Int) ≤ (k : Int) := by omega
              have hk1 : (k : Int) < (i : Int) := by omega
              have hk2 : (k : Int) < (q : Int) := by omega
              obtain ⟨t, ht⟩ : ∃ t, M[k]? = some t := ⟨_, List.getElem?_eq_getElem (by rw [HML.out]; omega)⟩
              have hd := HTk.out.cell (HCS.out k (.string t) (by simp [strs, ht])) id
              have hts := HMS.out t (List.mem_of_getElem? ht)
              have HB1 := Lib.hid (fun W => refBelow_calls s t W (by omega) hts)
              have HB2 := Lib.hid (fun W => refBelow_calls t s W hts (by omega))
              have hbad : badP s t → a = i ∧ er = 10 := fun hb => by
                have hnf : ¬ fitsT (nm M i) (spl s.data.toList) := fun hf => (fits_bad M i s).1 hf k t hkl ht hb
                have hfst := HIS.out.first HS.out HG.out (fun h => hnf (h s HS.out).2)
                refine ⟨hfst.1, ?_⟩
                rcases hfst.2 with ⟨h, _⟩ | h
                · rw [HCK.out] at h; cases h
                · exact h.2.2
              have HBD := Lib.hid hbad
              have HTE := Lib.hid ht
              clear hbad ht
              go_upto_region 15 with fail
              go_cut [79] from 49 to 79 (fun v79 wx => ∃ b : Bool, v79 = .bool b ∧ (b = true ↔ badP s t) ∧ Touch (fun _ => False) wr wx)
              case first =>
                by_cases h1 : t = s
                · have hE : (t.toList == s.toList) = true := by rw [tEq2]; exact decide_eq_true h1
                  have HH := Lib.hid h1
                  clear h1
                  go_quiet (fail)
                  go_wp2_with fail
                  go_meet
                  exact ⟨true, rfl, ⟨fun _ => .inl HH.out, fun _ => rfl⟩, (Touch.refl _ _).drewN _⟩
                · have hE : (t.toList == s.toList) = false := by rw [tEq2]; exact decide_eq_false h1
                  have HH := Lib.hid h1
                  clear h1
                  cases hb1 : belowB s t
                  · rw [hb1] at HB1
                    cases hb2 : belowB t s
                    · rw [hb2] at HB2
                      have HX := Lib.hid (And.intro hb1 hb2)
                      clear hb1 hb2
                      go_quiet (first | (go_at_call 13; with_reducible exact quiet_same (HB1.out _)) | (go_at_call 13; with_reducible exact quiet_same (HB2.out _)))
                      go_wp2_with fail
                      go_meet
                      refine ⟨false, rfl, ⟨fun h => (by cases h), fun h => ?_⟩, (Touch.refl _ _).drewN _⟩
                      rcases h with h | h | h
                      · exact absurd h HH.out
                      · rw [HX.out.1] at h; cases h
                      · rw [HX.out.2] at h; cases h
                    · rw [hb2] at HB2
                      have HX := Lib.hid hb2
                      clear hb1 hb2
                      go_quiet (first | (go_at_call 13; with_reducible exact quiet_same (HB1.out _)) | (go_at_call 13; with_reducible exact quiet_same (HB2.out _)))
                      go_wp2_with fail
                      go_meet
                      exact ⟨true, rfl, ⟨fun _ => .inr (.inr HX.out), fun _ => rfl⟩, (Touch.refl _ _).drewN _⟩
                  · rw [hb1] at HB1
                    have HX := Lib.hid hb1
                    clear hb1
                    go_quiet (first | (go_at_call 13; with_reducible exact quiet_same (HB1.out _)))
                    go_wp2_with fail
                    go_meet
                    exact ⟨true, rfl, ⟨fun _ => .inr (.inl HX.out), fun _ => rfl⟩, (Touch.refl _ _).drewN _⟩
              case rest =>
                obtain ⟨b, rfl, hb, hTc⟩ := hcut
                have HTc := Lib.hid (HTk.out.trans hTc)
                have HBB := Lib.hid hb
                clear hTc hb hc hd
                cases b
                · go_wp2_with fail
                  go_roundw
                  case rel =>
                    have HREL : ∃ k' : Nat, Value.int .i64 ((k : Int) + 1) = .int .i64 (k' : Nat) ∧ k' ≤ i ∧ RowKit.Hid (∀ j t, j < k' → M[j]? = some t → ¬ badP s t) ∧ RowKit.Hid (Touch (fun _ => False) w wc) :=
                      ⟨k + 1, by go_num, by omega, Lib.hid (fun j t' hj ht' => by
                        rcases Nat.lt_or_ge j k with h | h
                        · exact HNB.out j t' h ht'
                        · obtain rfl : j = k := by omega
                          obtain rfl := Option.some.inj (HTE.out.symm.trans ht')
                          exact fun hh => by have := HBB.out.2 hh; cases this), HTc⟩
                    first
                      | exact HREL
                      | (repeat apply Exists.intro; exact ⟨HREL, rfl⟩)
                  case measure => simp [intOf]; omega
                · obtain ⟨rfl, rfl⟩ := HBD.out (HBB.out.1 rfl)
                  go_wp2_with fail
                  go_ret
                  exact ⟨rfl, HTc.out⟩
            · obtain rfl : k = i := by omega
              go_wp2_with fail
              go_roundw
              case rel =>
                have HREL : ∃ i' : Nat, Value.int .i64 ((k : Int) + 1) = .int .i64 (i' : Nat) ∧ i' ≤ q ∧ RowKit.Hid (∀ j, j < i' → goodAt M j) ∧ RowKit.Hid (Touch (fun _ => False) w wr) :=
                  ⟨k + 1, by go_num, by omega, Lib.hid (fun j hj => by
                    rcases Nat.lt_or_ge j k with h | h
                    · exact HG.out j h
                    · obtain rfl : j = k := by omega
                      intro s' hs'
                      obtain rfl := Option.some.inj (HS.out.symm.trans hs')
                      exact ⟨HCK.out, (fits_bad M j s).2 HNB.out⟩), HTk⟩
                first
                  | exact HREL
                  | (repeat apply Exists.intro; exact ⟨HREL, rfl⟩)
              case measure => simp [intOf]; omega
    · obtain rfl : i = q := by omega
      have hn0 := HIS.out.none (fun j => by
        rcases Nat.lt_or_ge j i with h | h
        · exact HG.out j h
        · intro s hs
          rw [List.getElem?_eq_none (by rw [HML.out]; exact h)] at hs
          cases hs)
      obtain ⟨rfl, rfl⟩ := hn0
      go_wp2_with fail
      go_ret
      exact ⟨rfl, HT.out⟩
end Go.Proofs.YtmhigecchligcaaDoor
