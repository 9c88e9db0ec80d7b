/- The walk of layer 12's statement which directories names are in. -/
import Derived.Test.YtmhigecchligcaaDoorNamDb
namespace Go.Proofs.YtmhigecchligcaaDoor
open Go Go.RowKit
set_option maxRecDepth 100000

theorem below_trans {s d e : ByteArray} (h1 : belowB s d = true) (h2 : belowB d e = true) : belowB s e = true := by
  rw [belowB_iff] at *
  obtain ⟨c, hc⟩ := h1
  obtain ⟨c', hc'⟩ := h2
  exact ⟨c' ++ 47 :: c, by rw [hc, hc']; simp⟩
theorem dirT_cases (s : ByteArray) : dirT s = ByteArray.empty ∨ (belowB s (dirT s) = true ∧ (dirT s).size < s.size) := by
  obtain ⟨L, _, h1, h2⟩ := split_spec s
  by_cases h : L = []
  · exact .inl (h1 h)
  · right
    have e := h2 h
    have e2 : s.data.toList = (dirT s).data.toList ++ 47 :: (baseT s).data.toList := by
      conv => lhs; rw [← e]
      simp
    refine ⟨(belowB_iff _ _).2 ⟨_, e2⟩, ?_⟩
    have := congrArg List.length e2
    simp at this
    omega

theorem size_pos {d : ByteArray} (h : d ≠ ByteArray.empty) : 0 < d.size := by
  rcases Nat.eq_zero_or_pos d.size with h0 | h0
  · refine absurd (bytes_inj ?_) h
    have h2 : d.data.toList.length = d.size := by simp
    rw [h0] at h2
    rw [List.eq_nil_of_length_eq_zero h2]
    rfl
  · exact h0
theorem not_empty {d : ByteArray} (h : d ≠ ByteArray.empty) : d.toList.isEmpty = false := by
  have h1 := size_pos h
  have h2 : d.data.toList.length = d.size := by simp
  rw [ByteArray.toList_eq]
  cases hl : d.data.toList with
  | nil =>
    rw [hl] at h2
    have h3 : (0 : Nat) = d.size := h2
    omega
  | cons a b => rfl
def strSz : Value → Nat
  | .string d => d.size
  | _ => 0

set_option maxHeartbeats 4000000 in
theorem dirs_calls (L : List ByteArray) (v : Value) (w : World) (hv : Reads w v (strs L)) (hsz : ∀ s ∈ L, s.size ≤ 9223372036854775807) (hT : Tabs w) :
    Calls Tryd.prog 7 #[v] w fun e w' => e = .returned (.bool true) ∧ Touch (fun _ => False) w w' := by
  obtain ⟨va, vc, hve, hvc, hvm⟩ := hv.form
  rw [strs_length] at hve hvc
  subst hve
  obtain ⟨q, hq⟩ : ∃ q : Nat, q = min L.length 20 := ⟨_, rfl⟩
  obtain ⟨n, hn⟩ : ∃ n : Nat, n = L.length := ⟨_, rfl⟩
  rw [← hn] at hq hvc ⊢
  have hmin : min (n : Int) 20 = (q : Int) := by omega
  have hmin2 : (if (20 : Int) < (n : Int) then (20 : Int) else (n : Int)) = (q : Int) := by split <;> omega
  have hq0 : (0 : Int) ≤ (q : Int) := by omega
  have hqn : (q : Int) ≤ (n : Int) := by omega
  have hqc : (q : Int) ≤ (vc : Int) := by omega
  have hq40 : q ≤ 20 := by omega
  have hup := hv.upto (q := q) (by omega)
  rw [show (strs L).take q = strs (L.take q) by simp [strs, List.map_take]] at hup
  have hml : (L.take q).length = q := by rw [List.length_take, ← hn]; omega
  have hms : ∀ s ∈ L.take q, s.size ≤ 9223372036854775807 := fun s hs => hsz s (List.mem_of_mem_take hs)
  generalize L.take q = M at hup hml hms
  have HV := Lib.hid hup
  have HML := Lib.hid hml
  have HMS := Lib.hid hms
  have HTB := Lib.hid hT
  have HAL := Lib.hid (fun W (h : Touch (fun _ => False) w W) => dirs_of M _ W (HV.out.still h) hms (by omega) (hT.kept h))
  clear hup hml hms hv hsz hT hq hn
  go_enter Tryd.func7, Tryd.ntmps7
  go_upto_block 0 with (first
    | (go_at_call 8; refine (speaks12_calls _ HTB.out).mono ?_; rintro e w1 ⟨rfl, ht1⟩; have HT1 := Lib.hid ht1; clear ht1)
    | (go_at_call 19; refine (HAL.out _ HT1.out).mono ?_; rintro e w2 ⟨ht2, dv, Z, rfl, hrd, hnd, hzl, hin, hall⟩; have HT2 := Lib.hid (HT1.out.trans ht2); have HRD := Lib.hid hrd; have HND := Lib.hid hnd; have HIN := Lib.hid hin; have HALL := Lib.hid hall; clear ht2 hrd hnd hin hall; obtain ⟨da, dc, hde, hdc, hdm⟩ := HRD.out.form; rw [strs_length, srt_length] at hde hdc; subst hde))
  obtain ⟨z, hz⟩ : ∃ z, Z.length = z := ⟨_, rfl⟩
  rw [hz] at hdc hzl ⊢
  have HZ := Lib.hid hz
  have HRD2 : RowKit.Hid (Reads w2 (.slice da z dc) (strs (srt Z))) := Lib.hid (by rw [← hz]; exact HRD.out)
  clear HRD hz HT1
  go_cut [4] (fun _ wx => Touch (fun _ => False) w2 wx)
  case first =>
    go_wp2_with fail
    go_loopw [4] (fun iv wr => ∃ i : Nat, iv = .int .i64 (i : Nat) ∧ i ≤ z ∧ RowKit.Hid (Touch (fun _ => False) w2 wr)) (fun iv _ => z - (intOf iv).toNat)
    case atStart => exact ⟨0, rfl, Nat.zero_le _, Lib.hid (Touch.refl _ _)⟩
    case round =>
      obtain ⟨i, rfl, hi, HT⟩ := hrel
      have hi0 : (0 : Int) ≤ (i : Int) := by omega
      by_cases hlt : i < z
      · have hi1 : (i : Int) < (z : Int) := by omega
        obtain ⟨d, hd⟩ : ∃ d, (srt Z)[i]? = some d := ⟨_, List.getElem?_eq_getElem (by rw [srt_length, HZ.out]; exact hlt)⟩
        obtain ⟨s0, hs0m, hs0c, hs0b⟩ := HIN.out d ((srt_mem Z d).1 (List.mem_of_getElem? hd))
        obtain ⟨j0, hj0⟩ := List.mem_iff_getElem?.1 hs0m
        have hj0q : j0 < q := by have := (List.getElem?_eq_some_iff.1 hj0).1; rw [HML.out] at this; exact this
        obtain ⟨gd, od, cd, hgd, _, _, _, hcd⟩ := HRD2.out.addr (by rw [strs_length, srt_length, HZ.out]; omega)
        rw [strs_length, srt_length, HZ.out] at hgd
        injection hgd with hgd1 _ hgd2
        subst hgd1 hgd2
        obtain ⟨gm, om, cm, hgm, _, _, _, hcm⟩ := HV.out.addr (by rw [strs_length, HML.out]; omega)
        rw [strs_length, HML.out] at hgm
        injection hgm with hgm1 _ hgm2
        subst hgm1 hgm2
        have hce := hcd i (.string d) (by simp [strs, hd])
        have HCD := Lib.hid hcd
        have HCM := Lib.hid hcm
        have HCE := Lib.hid hce
        have HD := Lib.hid hd
        have H0 := Lib.hid (And.intro hs0c (And.intro hs0b hj0))
        have hdl : d.size ≤ 9223372036854775807 := by
          rw [belowB_iff] at hs0b
          obtain ⟨c, hc⟩ := hs0b
          have h1 := congrArg List.length hc
          have h2 := HMS.out s0 hs0m
          simp at h1
          omega
        clear hcd hcm hce hd hs0c hs0b hj0 hs0m
        go_wp2_with fail
        go_loopw [5, 6] (fun bv kv wx => ∃ (k : Nat) (b : Bool), bv = .bool b ∧ kv = .int .i64 (k : Nat) ∧ k ≤ q ∧ RowKit.Hid (j0 < k → b = true) ∧ RowKit.Hid (Touch (fun _ => False) w2 wx)) (fun _ kv _ => q - (intOf kv).toNat)
        case atStart => exact ⟨0, false, rfl, rfl, Nat.zero_le _, Lib.hid (fun h => absurd h (Nat.not_lt_zero _)), HT⟩
        case round =>
          obtain ⟨k, b, rfl, rfl, hk, HJ, HTk⟩ := hrel
          have hk0 : (0 : Int) ≤ (k : Int) := by omega
          by_cases hkl : k < q
          · have hk1 : (k : Int) < (q : Int) := by omega
            obtain ⟨s, hs⟩ : ∃ s, M[k]? = some s := ⟨_, List.getElem?_eq_getElem (by rw [HML.out]; exact hkl)⟩
            have e0 := HTk.out.cell (HT2.out.cell (HCM.out k (.string s) (by simp [strs, hs])) id) id
            have e1 := HTk.out.cell HCE.out id
            have hss := HMS.out s (List.mem_of_getElem? hs)
            have HRB := Lib.hid (fun W => refBelow_calls s d W hss hdl)
            have hj : k = j0 → checkB s = true ∧ belowB s d = true := fun e => by
              subst e
              obtain rfl := Option.some.inj (hs.symm.trans H0.out.2.2)
              exact ⟨H0.out.1, H0.out.2.1⟩
            have HJ0 := Lib.hid hj
            clear hj hs
            cases b
            · by_cases h300 : s.size < 300
              · have h3I : (s.size : Int) < 300 := by omega
                have h3J : ¬ (300 : Int) ≤ (s.size : Int) := by omega
                have HRC := Lib.hid (fun W => refCheck_calls s W (by omega))
                cases hck : checkB s
                · rw [hck] at HRC
                  have HX : RowKit.Hid (k = j0 → false = true) := Lib.hid (fun h => by have := (HJ0.out h).1; rw [hck] at this; exact this)
                  clear hck h300
                  go_upto_region 12 with fail
                  go_quiet (first | (go_at_call 10; with_reducible exact quiet_same (HRC.out _)) | (go_at_call 13; with_reducible exact quiet_same (HRB.out _)))
                  go_wp2_with fail
                  go_roundw
                  case rel =>
                    have HREL : ∃ (k' : Nat) (b'' : Bool), Value.bool false = .bool b'' ∧ Value.int .i64 ((k : Int) + 1) = .int .i64 (k' : Nat) ∧ k' ≤ q ∧ RowKit.Hid (j0 < k' → b'' = true) ∧ RowKit.Hid (Touch (fun _ => False) w2 (wr.drewN nq)) :=
                      ⟨k + 1, false, rfl, by go_num, hkl, Lib.hid (fun h => by
                        rcases Nat.lt_or_ge j0 k with h1 | h1
                        · exact HJ.out h1
                        · exact HX.out (by omega)), Lib.hid (HTk.out.drewN _)⟩
                    first
                      | exact HREL
                      | (repeat apply Exists.intro; exact ⟨HREL, rfl⟩)
                  case measure => simp [intOf]; omega
                · rw [hck] at HRC
                  cases hb : belowB s d
                  · rw [hb] at HRB
                    have HX : RowKit.Hid (k = j0 → false = true) := Lib.hid (fun h => by have := (HJ0.out h).2; rw [hb] at this; exact this)
                    clear hck hb h300
                    go_upto_region 12 with fail
                    go_quiet (first | (go_at_call 10; with_reducible exact quiet_same (HRC.out _)) | (go_at_call 13; with_reducible exact quiet_same (HRB.out _)))
                    go_wp2_with fail
                    go_roundw
                    case rel =>
                      have HREL : ∃ (k' : Nat) (b'' : Bool), Value.bool false = .bool b'' ∧ Value.int .i64 ((k : Int) + 1) = .int .i64 (k' : Nat) ∧ k' ≤ q ∧ RowKit.Hid (j0 < k' → b'' = true) ∧ RowKit.Hid (Touch (fun _ => False) w2 (wr.drewN nq)) :=
                        ⟨k + 1, false, rfl, by go_num, hkl, Lib.hid (fun h => by
                          rcases Nat.lt_or_ge j0 k with h1 | h1
                          · exact HJ.out h1
                          · exact HX.out (by omega)), Lib.hid (HTk.out.drewN _)⟩
                      first
                        | exact HREL
                        | (repeat apply Exists.intro; exact ⟨HREL, rfl⟩)
                    case measure => simp [intOf]; omega
                  · rw [hb] at HRB
                    clear hck hb h300
                    go_upto_region 12 with fail
                    go_quiet (first | (go_at_call 10; with_reducible exact quiet_same (HRC.out _)) | (go_at_call 13; with_reducible exact quiet_same (HRB.out _)))
                    go_wp2_with fail
                    go_roundw
                    case rel =>
                      have HREL : ∃ (k' : Nat) (b'' : Bool), Value.bool true = .bool b'' ∧ Value.int .i64 ((k : Int) + 1) = .int .i64 (k' : Nat) ∧ k' ≤ q ∧ RowKit.Hid (j0 < k' → b'' = true) ∧ RowKit.Hid (Touch (fun _ => False) w2 (wr.drewN nq)) :=
                        ⟨k + 1, true, rfl, by go_num, hkl, Lib.hid (fun _ => rfl), Lib.hid (HTk.out.drewN _)⟩
                      first
                        | exact HREL
                        | (repeat apply Exists.intro; exact ⟨HREL, rfl⟩)
                    case measure => simp [intOf]; omega
              · have h3I : ¬ (s.size : Int) < 300 := by omega
                have h3J : (300 : Int) ≤ (s.size : Int) := by omega
                clear h300
                go_upto_region 12 with fail
                go_quiet (fail)
                go_wp2_with fail
                go_roundw
                case rel =>
                  have HREL : ∃ (k' : Nat) (b'' : Bool), Value.bool true = .bool b'' ∧ Value.int .i64 ((k : Int) + 1) = .int .i64 (k' : Nat) ∧ k' ≤ q ∧ RowKit.Hid (j0 < k' → b'' = true) ∧ RowKit.Hid (Touch (fun _ => False) w2 (wr.drewN nq)) :=
                    ⟨k + 1, true, rfl, by go_num, hkl, Lib.hid (fun _ => rfl), Lib.hid (HTk.out.drewN _)⟩
                  first
                    | exact HREL
                    | (repeat apply Exists.intro; exact ⟨HREL, rfl⟩)
                case measure => simp [intOf]; omega
            · go_upto_region 12 with fail
              go_quiet (fail)
              go_wp2_with fail
              go_roundw
              case rel =>
                have HREL : ∃ (k' : Nat) (b'' : Bool), Value.bool true = .bool b'' ∧ Value.int .i64 ((k : Int) + 1) = .int .i64 (k' : Nat) ∧ k' ≤ q ∧ RowKit.Hid (j0 < k' → b'' = true) ∧ RowKit.Hid (Touch (fun _ => False) w2 (wr.drewN nq)) :=
                  ⟨k + 1, true, rfl, by go_num, hkl, Lib.hid (fun _ => rfl), Lib.hid (HTk.out.drewN _)⟩
                first
                  | exact HREL
                  | (repeat apply Exists.intro; exact ⟨HREL, rfl⟩)
              case measure => simp [intOf]; omega
          · obtain rfl : k = q := by omega
            obtain rfl : b = true := HJ.out hj0q
            have e1 := HTk.out.cell HCE.out id
            rcases Nat.eq_zero_or_pos i with h0 | h0
            · subst h0
              go_upto_region 13 with fail
              go_quiet (fail)
              go_wp2_with fail
              go_roundw
              case rel =>
                have HREL : ∃ i' : Nat, Value.int .i64 (((0 : Nat) : Int) + 1) = .int .i64 (i' : Nat) ∧ i' ≤ z ∧ RowKit.Hid (Touch (fun _ => False) w2 (wr.drewN nq)) := ⟨1, by go_num, hlt, Lib.hid (HTk.out.drewN _)⟩
                first
                  | exact HREL
                  | (repeat apply Exists.intro; exact ⟨HREL, rfl⟩)
              case measure => simp [intOf]; omega
            · obtain ⟨i1, hi1e⟩ : ∃ i1, i1 + 1 = i := ⟨i - 1, by omega⟩
              have hi1I : (i : Int) - 1 = (i1 : Int) := by omega
              have hi10 : (0 : Int) ≤ (i1 : Int) := by omega
              have hi1z : (i1 : Int) < (z : Int) := by omega
              have hiP : (0 : Int) < (i : Int) := by omega
              obtain ⟨d1, hd1⟩ : ∃ d1, (srt Z)[i1]? = some d1 := ⟨_, List.getElem?_eq_getElem (by rw [srt_length, HZ.out]; omega)⟩
              have e2 := HTk.out.cell (HCD.out i1 (.string d1) (by simp [strs, hd1])) id
              have hbl : Op.bytesLess d1.toList d.toList = true := srt_rise Z HND.out i1 d1 d hd1 (by rw [hi1e]; exact HD.out)
              clear hd1 hi1e
              go_upto_region 13 with fail
              go_quiet (fail)
              go_wp2_with fail
              go_roundw
              case rel =>
                have HREL : ∃ i' : Nat, Value.int .i64 ((i : Int) + 1) = .int .i64 (i' : Nat) ∧ i' ≤ z ∧ RowKit.Hid (Touch (fun _ => False) w2 (wr.drewN nq)) := ⟨i + 1, by go_num, hlt, Lib.hid (HTk.out.drewN _)⟩
                first
                  | exact HREL
                  | (repeat apply Exists.intro; exact ⟨HREL, rfl⟩)
              case measure => simp [intOf]; omega
      · obtain rfl : i = z := by omega
        go_wp2_with fail
        go_meet
        exact HT.out
  case rest =>
    have HT3 := Lib.hid (HT2.out.trans hcut)
    have HTC := Lib.hid hcut
    clear hcut
    go_wp2_with fail
    go_loopw [7] (fun kv wr => ∃ k : Nat, kv = .int .i64 (k : Nat) ∧ k ≤ q ∧ RowKit.Hid (Touch (fun _ => False) w2 wr)) (fun kv _ => q - (intOf kv).toNat)
    case atStart => exact ⟨0, rfl, Nat.zero_le _, HTC⟩
    case round =>
      obtain ⟨k, rfl, hk, HT⟩ := hrel
      have hk0 : (0 : Int) ≤ (k : Int) := by omega
      by_cases hkl : k < q
      · have hk1 : (k : Int) < (q : Int) := by omega
        obtain ⟨s, hs⟩ : ∃ s, M[k]? = some s := ⟨_, List.getElem?_eq_getElem (by rw [HML.out]; exact hkl)⟩
        obtain ⟨gm, om, cm, hgm, _, _, _, hcm⟩ := HV.out.addr (by rw [strs_length, HML.out]; omega)
        rw [strs_length, HML.out] at hgm
        injection hgm with hgm1 _ hgm2
        subst hgm1 hgm2
        have e0 := HT.out.cell (HT2.out.cell (hcm k (.string s) (by simp [strs, hs])) id) id
        have HS := Lib.hid hs
        clear hcm hs
        by_cases h300 : s.size < 300
        · have h3J : ¬ (300 : Int) ≤ (s.size : Int) := by omega
          have HRC := Lib.hid (fun W => refCheck_calls s W (by omega))
          cases hck : checkB s
          · rw [hck] at HRC
            clear hck h300
            go_wp2_with (go_at_call 10; refine (HRC.out _).mono ?_; rintro e w5 ⟨rfl, rfl⟩)
            go_roundw
            case rel =>
              have HREL : ∃ k' : Nat, Value.int .i64 ((k : Int) + 1) = .int .i64 (k' : Nat) ∧ k' ≤ q ∧ RowKit.Hid (Touch (fun _ => False) w2 wr) := ⟨k + 1, by go_num, hkl, HT⟩
              first
                | exact HREL
                | (repeat apply Exists.intro; exact ⟨HREL, rfl⟩)
            case measure => simp [intOf]; omega
          · rw [hck] at HRC
            have HCK := Lib.hid hck
            have HSP := Lib.hid (fun W => split_calls s W (by omega))
            clear hck
            go_wp2_with (first
              | (go_at_call 10; refine (HRC.out _).mono ?_; rintro e w5 ⟨rfl, rfl⟩)
              | (go_at_call 17; refine (HSP.out _).mono ?_; rintro e w6 ⟨rfl, nd, hw6⟩; have HT6 : RowKit.Hid (Touch (fun _ => False) w2 w6) := Lib.hid (by rw [hw6]; exact HT.out.drewN nd); clear hw6))
            go_loopw [8] (fun dv wx => ∃ d : ByteArray, dv = .string d ∧ d.size ≤ 300 ∧ RowKit.Hid (d = ByteArray.empty ∨ belowB s d = true) ∧ RowKit.Hid (Touch (fun _ => False) w2 wx)) (fun dv _ => strSz dv)
            case atStart => exact ⟨dirT s, rfl, by rcases dirT_cases s with h | h; rw [h]; exact Nat.zero_le _; omega, Lib.hid ((dirT_cases s).imp id (fun h => h.1)), HT6⟩
            case round =>
              obtain ⟨d, rfl, hds, HDB, HTd⟩ := hrel
              by_cases hde : d = ByteArray.empty
              · subst hde
                go_wp2_with fail
                go_roundw
                case rel =>
                  have HREL : ∃ k' : Nat, Value.int .i64 ((k : Int) + 1) = .int .i64 (k' : Nat) ∧ k' ≤ q ∧ RowKit.Hid (Touch (fun _ => False) w2 wr) := ⟨k + 1, by go_num, hkl, HTd⟩
                  first
                    | exact HREL
                    | (repeat apply Exists.intro; exact ⟨HREL, rfl⟩)
                case measure => simp [intOf]; omega
              · have hb := HDB.out.resolve_left hde
                have hd0 : 0 < d.size := size_pos hde
                have hne1 : d.toList.isEmpty = false := not_empty hde
                have hm := (srt_mem Z d).2 (HALL.out s (List.mem_of_getElem? HS.out) HCK.out d hb)
                obtain ⟨j0, hj0⟩ := List.mem_iff_getElem?.1 hm
                have hj0z : j0 < z := by have := (List.getElem?_eq_some_iff.1 hj0).1; rw [srt_length, HZ.out] at this; exact this
                obtain ⟨gd, od, cd, hgd, _, _, _, hcd⟩ := HRD2.out.addr (by rw [strs_length, srt_length, HZ.out]; omega)
                rw [strs_length, srt_length, HZ.out] at hgd
                injection hgd with hgd1 _ hgd2
                subst hgd1 hgd2
                have HCD := Lib.hid hcd
                have HJ0 := Lib.hid hj0
                have HB := Lib.hid hb
                have HSP2 := Lib.hid (fun W => split_calls d W (by omega))
                have HDT := Lib.hid (dirT_cases d)
                clear hcd hj0 hm hde hb
                go_wp2_with fail
                go_loopw [10, 11] (fun bv iv wy => ∃ (i : Nat) (b : Bool), bv = .bool b ∧ iv = .int .i64 (i : Nat) ∧ i ≤ z ∧ RowKit.Hid (j0 < i → b = true) ∧ RowKit.Hid (Touch (fun _ => False) w2 wy)) (fun _ iv _ => z - (intOf iv).toNat)
                case atStart => exact ⟨0, false, rfl, rfl, Nat.zero_le _, Lib.hid (fun h => absurd h (Nat.not_lt_zero _)), HTd⟩
                case round =>
                  obtain ⟨i, b, rfl, rfl, hi, HJ, HTi⟩ := hrel
                  have hi0 : (0 : Int) ≤ (i : Int) := by omega
                  by_cases hil : i < z
                  · have hi1 : (i : Int) < (z : Int) := by omega
                    obtain ⟨t, ht⟩ : ∃ t, (srt Z)[i]? = some t := ⟨_, List.getElem?_eq_getElem (by rw [srt_length, HZ.out]; exact hil)⟩
                    have e1 := HTi.out.cell (HCD.out i (.string t) (by simp [strs, ht])) id
                    have HTE := Lib.hid ht
                    clear ht
                    cases b
                    · have hq2 : (t.toList == d.toList) = decide (t = d) := tEq2 d t
                      obtain ⟨b2, hb2⟩ : ∃ b2, decide (t = d) = b2 := ⟨_, rfl⟩
                      rw [hb2] at hq2
                      have HB2 := Lib.hid hb2
                      clear hb2
                      go_wp2_with fail
                      go_roundw
                      case rel =>
                        have HREL : ∃ (i' : Nat) (b'' : Bool), Value.bool b2 = .bool b'' ∧ Value.int .i64 ((i : Int) + 1) = .int .i64 (i' : Nat) ∧ i' ≤ z ∧ RowKit.Hid (j0 < i' → b'' = true) ∧ RowKit.Hid (Touch (fun _ => False) w2 wr) :=
                          ⟨i + 1, b2, rfl, by go_num, hil, Lib.hid (fun h => by
                            rcases Nat.lt_or_ge j0 i with h1 | h1
                            · have := HJ.out h1; cases this
                            · obtain rfl : i = j0 := by omega
                              rw [← HB2.out]
                              exact decide_eq_true (Option.some.inj (HTE.out.symm.trans HJ0.out))), HTi⟩
                        first
                          | exact HREL
                          | (repeat apply Exists.intro; exact ⟨HREL, rfl⟩)
                      case measure => simp [intOf]; omega
                    · go_wp2_with fail
                      go_roundw
                      case rel =>
                        have HREL : ∃ (i' : Nat) (b'' : Bool), Value.bool true = .bool b'' ∧ Value.int .i64 ((i : Int) + 1) = .int .i64 (i' : Nat) ∧ i' ≤ z ∧ RowKit.Hid (j0 < i' → b'' = true) ∧ RowKit.Hid (Touch (fun _ => False) w2 wr) :=
                          ⟨i + 1, true, rfl, by go_num, hil, Lib.hid (fun _ => rfl), HTi⟩
                        first
                          | exact HREL
                          | (repeat apply Exists.intro; exact ⟨HREL, rfl⟩)
                      case measure => simp [intOf]; omega
                  · obtain rfl : i = z := by omega
                    obtain rfl : b = true := HJ.out hj0z
                    go_wp2_with (go_at_call 17; refine (HSP2.out _).mono ?_; rintro e w7 ⟨rfl, nd, hw7⟩; have HT7 : RowKit.Hid (Touch (fun _ => False) w2 w7) := Lib.hid (by rw [hw7]; exact HTi.out.drewN nd); clear hw7)
                    go_roundw
                    case rel =>
                      have HREL : ∃ d' : ByteArray, Value.string (dirT d) = .string d' ∧ d'.size ≤ 300 ∧ RowKit.Hid (d' = ByteArray.empty ∨ belowB s d' = true) ∧ RowKit.Hid (Touch (fun _ => False) w2 w7) :=
                        ⟨dirT d, rfl, by rcases HDT.out with h | h; rw [h]; exact Nat.zero_le _; omega, Lib.hid (HDT.out.imp id (fun h => below_trans HB.out h.1)), HT7⟩
                      first
                        | exact HREL
                        | (repeat apply Exists.intro; exact ⟨HREL, rfl⟩)
                    case measure =>
                      show (dirT d).size < d.size
                      rcases HDT.out with h | h
                      · rw [h]; exact hd0
                      · exact h.2
        · have h3J : (300 : Int) ≤ (s.size : Int) := by omega
          clear h300
          go_wp2_with fail
          go_roundw
          case rel =>
            have HREL : ∃ k' : Nat, Value.int .i64 ((k : Int) + 1) = .int .i64 (k' : Nat) ∧ k' ≤ q ∧ RowKit.Hid (Touch (fun _ => False) w2 wr) := ⟨k + 1, by go_num, hkl, HT⟩
            first
              | exact HREL
              | (repeat apply Exists.intro; exact ⟨HREL, rfl⟩)
          case measure => simp [intOf]; omega
      · obtain rfl : k = q := by omega
        go_wp2_with fail
        go_ret
        exact ⟨rfl, HT2.out.trans HT.out⟩
end Go.Proofs.YtmhigecchligcaaDoor
