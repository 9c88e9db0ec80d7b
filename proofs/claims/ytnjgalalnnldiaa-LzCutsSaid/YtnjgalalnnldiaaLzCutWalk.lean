/- The walk of layer 5's statement on tokens that are cut anywhere. -/
import Derived.Test.YtnjgalalnnldiaaLzH
import Derived.Deep.CutBlock
namespace Go.Proofs.Ytnjgalalnnldiaa
open Go Go.RowKit
set_option maxRecDepth 100000

theorem cut_bad (l : List Tok) (v : Value) (n : Int) (w : World) (hv : Toks w v l) (hl : l.length ≤ 100) (hg : allGood l = false) :
    Calls Try.prog 15 #[v, .int .i64 n] w (CutOut none w) := by
  rcases Int.lt_or_le n 0 with h | h
  · exact cut_neg v n w h
  · refine cut_over l v n w hv hl ?_ h
    unfold coverZ
    rw [if_neg (by rw [hg]; decide)]
    omega

set_option maxHeartbeats 4000000 in
theorem cuts_calls (s : ByteArray) (l : List Tok) (n : Int) (v : Value) (w : World) (hv : Toks w v l) (hsm : s.size ≤ 9223372036854775807) (hn1 : -9223372036854775808 ≤ n) (hn2 : n ≤ 9223372036854775807) :
    Calls Try.prog 6 #[.string s, v, .int .i64 n] w fun e w' => e = .returned (.bool true) ∧ Touch (fun _ => False) w w' := by
  obtain ⟨i0, hi, hz0, hz1, hz2⟩ := info_parts Try.infoT
  obtain ⟨a, cap, rfl, hlc, hcm, hcell⟩ := hv
  have HN1 := Lib.hid hn1
  have HN2 := Lib.hid hn2
  clear hn1 hn2
  go_enter Try.func6, Try.ntmps6
  go_upto_region 3 with (go_at_call 13; refine (speaks5_calls _).mono ?_; rintro e w1 ⟨rfl, ht1⟩)
  go_cut [0] (fun v0 wx => (∃ q : ByteArray, v0 = .string q ∧ q.size ≤ 300) ∧ Touch (fun _ => False) w wx)
  case first =>
    by_cases hs : s.size ≤ 300
    · go_wp2_with fail
      go_meet
      exact ⟨⟨s, rfl, hs⟩, ht1⟩
    · have hs' : 300 < s.size := by omega
      go_wp2_with fail
      go_meet
      exact ⟨⟨_, rfl, by simp; omega⟩, ht1⟩
  case rest =>
    obtain ⟨⟨q, hq, hqs⟩, ht1⟩ := hcut
    subst hq
    go_upto_block 0 with fail
    go_cut [7, 8] (fun va v8 wx => ∃ k, k ≤ 20 ∧ k ≤ l.length ∧ wx.ownsRow w.heap.size 37 3 va k (toksV (l.take k)) ∧ Touch (fun _ => False) w wx)
    case first =>
      go_wp2_with fail
      go_loopw [7, 8] (fun va iv wr => ∃ (k : Nat), k ≤ l.length ∧ k ≤ 20 ∧ iv = .int .i64 (k : Nat) ∧ wr.ownsRow w.heap.size 37 3 va k (toksV (l.take k)) ∧ Touch (fun _ => False) w wr) (fun _ iv _ => 20 - (intOf iv).toNat)
      case atStart => exact ⟨0, Nat.zero_le _, Nat.zero_le _, rfl, World.ownsRow_nil _ _ _ _, ht1⟩
      case round =>
        obtain ⟨k, hk, hk20, rfl, hA, hT⟩ := hrel
        obtain ⟨aa, ca, hae⟩ := own_form hA
        subst hae
        by_cases hlt : k < l.length
        · by_cases hlt20 : k < 20
          · rcases hcell with rfl | ⟨g, off, rfl, hcell⟩
            · simp at hlt
            obtain ⟨t, ht⟩ : ∃ t, t = l[k] := ⟨_, rfl⟩
            have hlk : l[k]? = some t := by rw [ht]; exact List.getElem?_eq_getElem hlt
            have htk : l.take (k + 1) = l.take k ++ [t] := by rw [ht]; exact List.take_succ_eq_append_getElem hlt
            obtain ⟨a0, a1, a2⟩ := hcell k t hlk
            have b0 := hT.cell a0 id
            have b1 := hT.cell a1 id
            have b2 := hT.cell a2 id
            have HTK := Lib.hid htk
            have hone : ∀ u ∈ tokV t, u.oneCell' = true := by
              intro u hu
              simp [tokV] at hu
              rcases hu with rfl | rfl | rfl <;> rfl
            have hTs := hT.size
            have hk0 : (0 : Int) ≤ (k : Int) := by omega
            have hk1 : (k : Int) < (l.length : Int) := by omega
            clear hcell a0 a1 a2 ht hlk htk
            go_wp2_with (at_builtin; refine wpList_append_own_at _ rfl (.tmp 43) (.tmp 48) 35 rfl w.heap.size 37 i0 _ 3 24 Try.underlying35 hi hz0 hz1 hz2 rfl (by decide) (.slice aa k ca) k (toksV (l.take k)) rfl (by exact own_still hA ((Touch.refl (fun _ => False) wr).alloc _) (fun _ _ => id)) ⟨wr.heap.size, 0, none⟩ 1 1 (tokV t) rfl rfl (by exact new_at (x := t) (heap_alloc_new wr _)) hone (by unfold maxLen; omega) (by omega) (by simp; omega) ?_; intro v2 w2 hrow2 hgrow _ hown2)
            go_roundw
            case rel =>
              refine ⟨k + 1, by omega, by omega, by go_num, ?_, (hT.alloc _).grown hgrow (fun j hj => .inr (own_base hA j hj))⟩
              rw [HTK.out, toksV_append, show toksV [t] = tokV t by simp [toksV]]
              exact hrow2
            case measure => simp [intOf]; omega
          · go_wp2_with fail
            go_meet
            exact ⟨k, hk20, hk, hA, hT⟩
        · go_wp2_with fail
          go_meet
          exact ⟨k, hk20, hk, hA, hT⟩
    case rest =>
      obtain ⟨k0, hk20, hk0, hA, hT0⟩ := hcut
      obtain ⟨wb, rfl⟩ : ∃ x, x = wc := ⟨wc, rfl⟩
      have hV := Toks.of_own hA
      have hL : (l.take k0).length = k0 := by rw [List.length_take]; omega
      clear hA hcell ht1
      generalize l.take k0 = L at hV hL
      subst hL
      have HV := Lib.hid hV
      obtain ⟨aa, ca, rfl, hlc2, hcm2, hcell⟩ := hV
      have HT0 := Lib.hid hT0
      clear hT0
      go_upto_block 2 with fail
      go_cut [9, 10] (fun v9 v10 wx => RowKit.Hid (allGood L = true) ∧ v9 = .int .i64 (coverN L : Nat) ∧ Touch (fun _ => False) wb wx)
      case first =>
        go_wp2_with fail
        go_loopw [6, 9, 10, 11, 12, 13] (fun r z iv v11 v12 v13 wr => (r = .bool false ∧ v11 = undef ∧ v12 = undef ∧ v13 = undef) ∧ ∃ (k : Nat), k ≤ L.length ∧ iv = .int .i64 (k : Nat) ∧ z = .int .i64 (coverN (L.take k) : Nat) ∧ RowKit.Hid (allGood (L.take k) = true) ∧ Touch (fun _ => False) wb wr) (fun _ _ iv _ _ _ _ => L.length - (intOf iv).toNat)
        case atStart => exact ⟨⟨rfl, rfl, rfl, rfl⟩, 0, Nat.zero_le _, rfl, rfl, Lib.hid rfl, Touch.refl _ _⟩
        case round =>
          obtain ⟨⟨rfl, rfl, rfl, rfl⟩, k, hk, rfl, rfl, HG0, hT⟩ := hrel
          have hcb := coverN_le HG0.out
          have hlk := List.length_take_le k L
          by_cases hlt : k < L.length
          · rcases hcell with rfl | ⟨g, off, rfl, hcell⟩
            · simp at hlt
            obtain ⟨t, ht⟩ : ∃ t, t = L[k] := ⟨_, rfl⟩
            have hlk2 : L[k]? = some t := by rw [ht]; exact List.getElem?_eq_getElem hlt
            have hcs := coverN_take_succ L k hlt
            have hgs := allGood_take_succ L k hlt
            rw [← ht] at hcs hgs
            have hbad : goodB t = false → allGood L = false := fun h => allGood_bad k hlt (by rw [← ht]; exact h)
            have HCS := Lib.hid hcs
            have HGS := Lib.hid hgs
            have HBAD := Lib.hid hbad
            obtain ⟨a0, a1, a2⟩ := hcell k t hlk2
            have b0 := hT.cell a0 id
            have b1 := hT.cell a1 id
            have b2 := hT.cell a2 id
            have HG := Lib.hid (fun W => refgood_calls t W)
            unfold tokA at HG
            have hk0 : (0 : Int) ≤ (k : Int) := by omega
            have hk1 : (k : Int) < (L.length : Int) := by omega
            have hsum : coverN (L.take k) ≤ 25800 := by omega
            clear hcell a0 a1 a2 ht hcs hgs hbad hlk2 hcb hlk
            generalize coverN (L.take k) = c at HCS hsum ⊢
            go_wp2_with fail
            refine (HG.out _).mono ?_
            rintro e w3 ⟨rfl, ht3⟩
            have hT3 := hT.trans ht3
            have c1 := ht3.cell b1 id
            clear b0 b1 b2 HG ht3 hT
            by_cases hg : goodB t = true
            · have hgn := good_n hg
              have htd : toldN t = max 1 t.n.toNat := rfl
              rw [htd] at HCS
              rw [hg] at HGS ⊢
              clear hg HBAD htd
              obtain ⟨m, hm⟩ : ∃ m : Nat, t.n = m := ⟨t.n.toNat, by omega⟩
              rw [hm] at c1 HCS hgn
              rw [Int.toNat_natCast] at HCS
              clear hm
              rcases Nat.eq_zero_or_pos m with rfl | hm
              · go_wp2_with fail
                all_goals
                  go_roundw
                  case rel => exact ⟨⟨rfl, rfl, rfl, rfl⟩, k + 1, by omega, by go_num, congrArg (Value.int .i64) (by rw [HCS.out]; omega), Lib.hid (by rw [HGS.out, HG0.out]; rfl), hT3⟩
                  case measure => simp [intOf]; omega
              · have hm' : (1 : Int) ≤ (m : Int) := by omega
                go_wp2_with fail
                all_goals
                  go_roundw
                  case rel => exact ⟨⟨rfl, rfl, rfl, rfl⟩, k + 1, by omega, by go_num, congrArg (Value.int .i64) (by rw [HCS.out]; omega), Lib.hid (by rw [HGS.out, HG0.out]; rfl), hT3⟩
                  case measure => simp [intOf]; omega
            · have hg' : goodB t = false := by simpa using hg
              have hag := HBAD.out hg'
              have hz : coverZ L = -1 := by unfold coverZ; rw [hag]; rfl
              have HCU := Lib.hid (fun W (hW : Touch (fun _ => False) wb W) => cut_bad L _ n W (HV.out.still hW) (by omega) hag)
              have HCO := Lib.hid (fun W (hW : Touch (fun _ => False) wb W) => cover_calls L _ W (HV.out.still hW) (by omega))
              rw [hz] at HCO
              rw [hg']
              clear hg hg' hz hag HBAD HGS HG0 HCS
              go_wp2_with fail
              refine (HCU.out _ hT3).mono ?_
              rintro e w4 ⟨rfl, ht4⟩
              have hT4 := hT3.trans ht4
              clear ht4
              go_wp2_with fail
              refine (HCO.out _ hT4).mono ?_
              rintro e w5 ⟨rfl, ht5⟩
              go_wp2_with fail
              go_ret
              exact ⟨rfl, HT0.out.trans (hT4.trans ht5)⟩
          · obtain rfl : k = L.length := by omega
            rw [List.take_length] at HG0 ⊢
            clear hcb hlk
            go_wp2_with fail
            go_meet
            exact ⟨HG0, rfl, hT⟩
      case rest =>
        obtain ⟨HG, h9, hT⟩ := hcut
        subst h9
        have hcl := coverN_le HG.out
        have hcover : coverZ L = (coverN L : Nat) := by unfold coverZ; rw [HG.out]; rfl
        have HCO := Lib.hid (fun W (hW : Touch (fun _ => False) wb W) => cover_calls L _ W (HV.out.still hW) (by omega))
        rw [hcover] at HCO
        clear hcell
        by_cases hout : n < 0 ∨ (coverN L : Nat) < n
        · have HCU : RowKit.Hid (∀ W, Touch (fun _ => False) wb W → Calls Try.prog 15 #[.slice aa L.length ca, .int .i64 n] W (CutOut none W)) := Lib.hid (fun W hW => by
            rcases hout with h | h
            · exact cut_neg _ n W h
            · exact cut_over L _ n W (HV.out.still hW) (by omega) (by rw [hcover]; exact h) (by omega))
          clear hcover
          generalize coverN L = C at HCO hout hcl
          go_wp2_with fail
          refine (HCU.out _ hT).mono ?_
          rintro e w4 ⟨rfl, ht4⟩
          have hT4 := hT.trans ht4
          clear ht4
          go_wp2_with fail
          refine (HCO.out _ hT4).mono ?_
          rintro e w5 ⟨rfl, ht5⟩
          by_cases hn0 : n < 0
          · clear hout
            go_wp2_with fail
            go_ret
            exact ⟨rfl, HT0.out.trans (hT4.trans ht5)⟩
          · have hn1 : (C : Int) < n := by omega
            have hn2 : decide (n < 0) = false := decide_eq_false hn0
            clear hout
            go_wp2_with fail
            go_ret
            exact ⟨rfl, HT0.out.trans (hT4.trans ht5)⟩
        · obtain ⟨m, rfl⟩ : ∃ m : Nat, n = m := ⟨n.toNat, by omega⟩
          have hm : m ≤ coverN L := by omega
          clear hout hcover
          have HCU0 := fun W (hW : Touch (fun _ => False) wb W) => cut_in L _ m W (HV.out.still hW) (by omega) HG.out hm
          have hn0 : ¬ ((m : Int) < 0) := by omega
          rcases cutting_of HG.out hm with ⟨x, y, hc, hcg⟩ | ⟨hc, hno⟩
          · rw [hc] at HCU0
            have HCU := Lib.hid HCU0
            have HCG := Lib.hid hcg
            have hlx := hcg.lx
            have hly := hcg.ly
            have hxz : coverZ x = (m : Nat) := by unfold coverZ; rw [hcg.gx, hcg.cx]; rfl
            have hyz : coverZ y = (coverN L - m : Nat) := by unfold coverZ; rw [hcg.gy, hcg.cy]; rfl
            clear HCU0 hc hcg
            have HXZ := Lib.hid hxz
            have HYZ := Lib.hid hyz
            clear hxz hyz
            generalize hCC : coverN L = C at *
            have HCC := Lib.hid hCC
            clear hCC
            have hmC : ¬ ((C : Int) < (m : Int)) := by omega
            have hmC2 : decide (C < m) = false := decide_eq_false (by omega)
            go_wp2_with fail
            refine (HCU.out _ hT).mono ?_
            rintro e w4 ⟨va, vb, rfl, hx, hy, ht4⟩
            have hT4 := hT.trans ht4
            have HX := Lib.hid hx
            have HY := Lib.hid hy
            clear ht4 hx hy
            go_wp2_with fail
            refine (HCO.out _ hT4).mono ?_
            rintro e w5 ⟨rfl, ht5⟩
            have hT5 := hT4.trans ht5
            have HX5 := Lib.hid (HX.out.still ht5)
            have HY5 := Lib.hid (HY.out.still ht5)
            clear HX HY ht5
            have HE := Lib.hid (expand_calls q L _ w5 (HV.out.still hT5) (by omega) (by omega))
            cases ho : expandL q.data.toList L with
            | none =>
              rw [ho] at HE
              unfold expV at HE
              clear ho
              go_wp2_with fail
              refine HE.out.mono ?_
              rintro e w6 ⟨rfl, ht6⟩
              have HCX := Lib.hid (cover_calls x _ w6 (HX5.out.still ht6) (by omega))
              have HY6 := Lib.hid (HY5.out.still ht6)
              have hT6 := hT5.trans ht6
              rw [HXZ.out] at HCX
              go_wp2_with fail
              refine HCX.out.mono ?_
              rintro e w7 ⟨rfl, ht7⟩
              have HCY := Lib.hid (cover_calls y _ w7 (HY6.out.still ht7) (by omega))
              have hT7 := hT6.trans ht7
              have hsub : ((C - m : Nat) : Int) = (C : Int) - (m : Int) := by omega
              rw [HYZ.out, hsub] at HCY
              clear hsub
              go_wp2_with fail
              refine HCY.out.mono ?_
              rintro e w8 ⟨rfl, ht8⟩
              go_wp2_with fail
              go_ret
              exact ⟨rfl, HT0.out.trans (hT7.trans ht8)⟩
            | some r =>
              have hex := HCG.out.ex q.data.toList
              rw [ho] at hex
              rw [ho] at HE
              have hrl := (expandL_length L _ _ ho).1
              rw [HCC.out, data_length] at hrl
              cases ho1 : expandL q.data.toList x with
              | none => rw [ho1] at hex; cases hex
              | some r1 =>
                rw [ho1, Option.bind_some] at hex
                obtain ⟨hr1, hr2⟩ := expandL_length x _ _ ho1
                obtain ⟨hr3, hr4⟩ := expandL_length y _ _ hex.symm
                rw [HCG.out.cx] at hr1
                rw [data_length] at hr1 hr2
                obtain ⟨T, hTd⟩ : ∃ T : ByteArray, T = ⟨(r1.drop q.size).toArray⟩ := ⟨_, rfl⟩
                obtain ⟨Q1, hQd⟩ : ∃ T : ByteArray, T = ⟨r1.toArray⟩ := ⟨_, rfl⟩
                have hQs : Q1.size = r1.length := by rw [hQd]; show r1.toArray.size = r1.length; rw [List.size_toArray]
                have hQl : Q1.data.toList = r1 := by rw [hQd]
                obtain ⟨U, hUd⟩ : ∃ T : ByteArray, T = ⟨(r.drop Q1.size).toArray⟩ := ⟨_, rfl⟩
                obtain ⟨S, hSd⟩ : ∃ T : ByteArray, T = ⟨(r.drop q.size).toArray⟩ := ⟨_, rfl⟩
                have hTs : T.size = m := by rw [hTd]; show (r1.drop q.size).toArray.size = m; rw [List.size_toArray, List.length_drop]; omega
                have hUs : U.size ≤ 5460 := by rw [hUd]; show (r.drop Q1.size).toArray.size ≤ 5460; rw [List.size_toArray, List.length_drop]; omega
                have hQT : q ++ T = Q1 := by
                  apply ByteArray.ext
                  apply Array.ext'
                  rw [ByteArray.data_append, Array.toList_append, hTd, hQd]
                  show q.data.toList ++ r1.drop q.size = r1
                  rw [hr2, List.take_append_drop]
                have hTU : T ++ U = S := by
                  apply ByteArray.ext
                  apply Array.ext'
                  rw [ByteArray.data_append, Array.toList_append, hTd, hUd, hSd, hQs]
                  show r1.drop q.size ++ r.drop r1.length = r.drop q.size
                  have h5 : r = r1 ++ r.drop r1.length := by
                    have := (List.take_append_drop r1.length r).symm
                    rw [← hr4] at this
                    exact this
                  have h6 : r.drop q.size = (r1 ++ r.drop r1.length).drop q.size := by rw [← h5]
                  rw [h6, List.drop_append_of_le_length (by omega)]
                have HE1 := fun W (hW : Touch (fun _ => False) w5 W) => expand_calls q x _ W (HX5.out.still hW) (by omega) (by omega)
                have HE2 := fun W (hW : Touch (fun _ => False) w5 W) => expand_calls Q1 y _ W (HY5.out.still hW) (by rw [hQs]; omega) (by omega)
                rw [ho1] at HE1
                rw [hQl, ← hex] at HE2
                unfold expV at HE HE1 HE2
                simp only at HE HE1 HE2
                rw [← hTd] at HE1
                rw [← hUd] at HE2
                rw [← hSd] at HE
                have HE1 := Lib.hid HE1
                have HE2 := Lib.hid HE2
                have hqT : q.size + T.size ≤ 100000 := by omega
                have hTUs : T.size + U.size ≤ 100000 := by omega
                clear ho hex hrl ho1 hr1 hr2 hr3 hr4 hTd hQd hQs hQl hUd hSd
                go_wp2_with fail
                refine HE.out.mono ?_
                rintro e w6 ⟨rfl, ht6⟩
                go_wp2_with fail
                refine (HE1.out _ ht6).mono ?_
                rintro e w7 ⟨rfl, ht7⟩
                go_wp2_with fail
                refine (HE2.out _ (ht6.trans ht7)).mono ?_
                rintro e w8 ⟨rfl, ht8⟩
                go_wp2_with fail
                go_ret
                exact ⟨rfl, HT0.out.trans (hT5.trans ((ht6.trans ht7).trans ht8))⟩
          · rw [hc] at HCU0
            have HCU := Lib.hid HCU0
            have HNO := Lib.hid hno
            clear HCU0 hc hno
            have hmC : ¬ (((coverN L : Nat) : Int) < (m : Int)) := by omega
            have hmC2 : decide (coverN L < m) = false := decide_eq_false (by omega)
            have hm5 : m ≤ 5160 := by omega
            go_wp2_with fail
            refine (HCU.out _ hT).mono ?_
            rintro e w4 ⟨rfl, ht4⟩
            have hT4 := hT.trans ht4
            clear ht4
            go_wp2_with fail
            refine (HCO.out _ hT4).mono ?_
            rintro e w5 ⟨rfl, ht5⟩
            have hT5 := hT4.trans ht5
            clear ht5 hT4
            obtain ⟨aa', ca', he, hlc3, hcm3, hcell⟩ := HV.out
            cases he
            go_wp2_with fail
            go_loopw [6, 17, 18, 19] (fun _ z iv _ wr => ∃ (k : Nat), k ≤ L.length ∧ iv = .int .i64 (k : Nat) ∧ z = .int .i64 (coverN (L.take k) : Nat) ∧ RowKit.Hid (∀ j (hj : j < L.length), j < k → ¬ (coverN (L.take j) < m ∧ m < coverN (L.take j) + toldN L[j])) ∧ Touch (fun _ => False) wb wr) (fun _ _ iv _ _ => L.length - (intOf iv).toNat)
            case atStart => exact ⟨0, Nat.zero_le _, rfl, rfl, Lib.hid (fun j _ h => absurd h (Nat.not_lt_zero _)), hT5⟩
            case round =>
              clear hT5
              obtain ⟨k, hk, rfl, rfl, HF, hT5⟩ := hrel
              by_cases hlt : k < L.length
              · rcases hcell with rfl | ⟨g, off, rfl, hcell⟩
                · simp at hlt
                have hat := HNO.out.at k hlt
                have hfk : ¬ (coverN (L.take k) < m ∧ m < coverN (L.take k) + toldN L[k]) → ∀ j (hj : j < L.length), j < k + 1 → ¬ (coverN (L.take j) < m ∧ m < coverN (L.take j) + toldN L[j]) := by
                  intro h j hj hjk
                  rcases Nat.lt_or_ge j k with h1 | h1
                  · exact HF.out j hj h1
                  · obtain rfl : j = k := by omega
                    exact h
                obtain ⟨t, ht⟩ : ∃ t, t = L[k] := ⟨_, rfl⟩
                have hlk2 : L[k]? = some t := by rw [ht]; exact List.getElem?_eq_getElem hlt
                have hgn : 0 ≤ t.n ∧ t.n ≤ 258 := good_n (by rw [ht]; exact allGood_at HG.out k hlt)
                have hcs := coverN_take_succ L k hlt
                have hcb := coverN_take_le L k
                have htd : toldN t = max 1 t.n.toNat := rfl
                rw [← ht] at hcs hat hfk
                rw [htd] at hcs hat hfk
                obtain ⟨q, hq⟩ : ∃ q : Nat, t.n = q := ⟨t.n.toNat, by omega⟩
                obtain ⟨a0, a1, a2⟩ := hcell k t hlk2
                have b1 := hT5.cell a1 id
                rw [hq] at b1 hgn
                rw [hq, Int.toNat_natCast] at hcs hat hfk
                have HCS := Lib.hid hcs
                have HFK := Lib.hid hfk
                have hk0 : (0 : Int) ≤ (k : Int) := by omega
                have hk1 : (k : Int) < (L.length : Int) := by omega
                have hsum : coverN (L.take k) ≤ 5160 := by omega
                clear hcell a0 a1 a2 ht hcs hlk2 hcb htd hq HF hfk
                generalize coverN (L.take k) = c at HCS hsum hat HFK ⊢
                obtain ⟨d, hd⟩ : ∃ d, d = max 1 q := ⟨_, rfl⟩
                rw [← hd] at HCS hat HFK
                have hdq : (max (q : Int) 1) = (d : Int) := by omega
                have hd258 : d ≤ 258 := by omega
                have hd1 : 1 ≤ d := by omega
                by_cases hin : c < m ∧ m < c + d
                · have hor := hat hin.1 hin.2
                  obtain ⟨hi1, hi2⟩ := hin
                  clear hat HFK HCS
                  by_cases h3 : m < c + 3
                  · have hq3 : (m : Int) - (c : Int) < 3 := by omega
                    rcases Nat.eq_zero_or_pos q with rfl | hq0
                    · obtain rfl : d = 1 := by omega
                      omega
                    · obtain rfl : d = q := by omega
                      clear hd hdq hor
                      have hq1 : (1 : Int) ≤ (d : Int) := by omega
                      have e1 : decide (c < m) = true := decide_eq_true hi1
                      have e2 : decide ((m : Int) < (c : Int) + (d : Int)) = true := decide_eq_true (by omega)
                      go_wp2_with fail
                      all_goals
                        go_ret
                        exact ⟨rfl, HT0.out.trans hT5⟩
                  · have hq3 : ¬ ((m : Int) - (c : Int) < 3) := by omega
                    have hq4 : (c : Int) + (d : Int) - (m : Int) < 3 := by omega
                    rcases Nat.eq_zero_or_pos q with rfl | hq0
                    · obtain rfl : d = 1 := by omega
                      omega
                    · obtain rfl : d = q := by omega
                      clear hd hdq hor h3
                      have hq1 : (1 : Int) ≤ (d : Int) := by omega
                      have e1 : decide (c < m) = true := decide_eq_true hi1
                      have e2 : decide ((m : Int) < (c : Int) + (d : Int)) = true := decide_eq_true (by omega)
                      go_wp2_with fail
                      all_goals
                        go_ret
                        exact ⟨rfl, HT0.out.trans hT5⟩
                · have HF2 := Lib.hid (HFK.out hin)
                  clear hat HFK
                  by_cases h3 : c < m
                  · have h4 : ¬ ((m : Int) < (c : Int) + (d : Int)) := by omega
                    have e1 : decide (c < m) = true := decide_eq_true h3
                    have e2 : decide ((m : Int) < (c : Int) + (d : Int)) = false := decide_eq_false h4
                    clear hin
                    rcases Nat.eq_zero_or_pos q with rfl | hq0
                    · obtain rfl : d = 1 := by omega
                      clear hd hdq
                      go_wp2_with fail
                      all_goals
                        go_roundw
                        case rel => exact ⟨k + 1, by omega, by go_num, congrArg (Value.int .i64) (by rw [HCS.out]; omega), HF2, hT5⟩
                        case measure => simp [intOf]; omega
                    · obtain rfl : d = q := by omega
                      clear hd hdq
                      have hq1 : (1 : Int) ≤ (d : Int) := by omega
                      go_wp2_with fail
                      all_goals
                        go_roundw
                        case rel => exact ⟨k + 1, by omega, by go_num, congrArg (Value.int .i64) (by rw [HCS.out]; omega), HF2, hT5⟩
                        case measure => simp [intOf]; omega
                  · have e1 : decide (c < m) = false := decide_eq_false h3
                    clear hin
                    rcases Nat.eq_zero_or_pos q with rfl | hq0
                    · obtain rfl : d = 1 := by omega
                      clear hd hdq
                      go_wp2_with fail
                      all_goals
                        go_roundw
                        case rel => exact ⟨k + 1, by omega, by go_num, congrArg (Value.int .i64) (by rw [HCS.out]; omega), HF2, hT5⟩
                        case measure => simp [intOf]; omega
                    · obtain rfl : d = q := by omega
                      clear hd hdq
                      have hq1 : (1 : Int) ≤ (d : Int) := by omega
                      go_wp2_with fail
                      all_goals
                        go_roundw
                        case rel => exact ⟨k + 1, by omega, by go_num, congrArg (Value.int .i64) (by rw [HCS.out]; omega), HF2, hT5⟩
                        case measure => simp [intOf]; omega
              · obtain rfl : k = L.length := by omega
                exact (HNO.out.lt (fun j hj => HF.out j hj hj)).elim
end Go.Proofs.Ytnjgalalnnldiaa
