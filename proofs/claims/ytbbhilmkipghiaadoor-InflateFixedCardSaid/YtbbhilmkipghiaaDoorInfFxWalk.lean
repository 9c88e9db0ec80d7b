/- The statement InflateFixed over the translated program (begun). -/
import Derived.Test.YtbbhilmkipghiaaDoorInfFxB
import Derived.Deep.Cut
import Derived.Deep.DeepCutAuto
import Derived.Deep.CutBlock
namespace Go.Proofs.YtbbhilmkipghiaaDoor
open Go Go.RowKit
set_option maxRecDepth 100000

theorem RS.new {w w1 : World} (h1 : Touch (fun _ => False) w w1) : RS w (w1.alloc (.cells #[.slice none 0 0, .int .u64 0, .int .i64 0] 27)) w1.heap.size (.slice none 0 0) 0 (toksV []) [] [] :=
  ⟨World.ownsRow_nil _ _ _ _, ⟨none, ⟨[], 0, 0, .slice none 0 0, ⟨box_cells (heap_alloc_new w1 _), Row.nil _ _, by simp [Value.ownBlock]⟩, rfl, by decide, by decide, rfl⟩, (fun k h => by cases h), fun x hx => by simp at hx⟩, (fun x hx => by simp at hx), ⟨h1.size, by simp [Value.ownBlock]⟩, h1.alloc _⟩
set_option maxHeartbeats 8000000 in
theorem fixed_calls (l : List Tok) (v : Value) (z : Int) (w : World) (hv : Toks w v l) (hz : -9223372036854775808 ≤ z ∧ z ≤ 9223372036854775807) :
    Calls Tryd.prog 3 #[v, .int .i64 z] w fun e w' => e = .returned (.bool true) ∧ Touch (fun _ => False) w w' := by
  obtain ⟨i0, hi, hz0, hz1, hz2⟩ := info_parts Tryd.infoS
  obtain ⟨a, cap, rfl, hlc, hcm, hcell⟩ := hv
  have HV := Lib.hid (⟨hlc, hcm, hcell, hz⟩ : _ ∧ _ ∧ _ ∧ _)
  clear hlc hcm hcell hz
  go_enter Tryd.func3, Tryd.ntmps3
  go_wp2_with fail
  refine (speaks7_calls _).mono ?_
  rintro e w1 ⟨rfl, hT1⟩
  have HR0 := Lib.hid (RS.new hT1)
  clear hT1
  go_upto_region 6 with fail
  obtain ⟨wb, hwb⟩ : ∃ b, b = w1.heap.size := ⟨_, rfl⟩
  rw [← hwb] at HR0 ⊢
  generalize w1.alloc _ = w2 at HR0 ⊢
  have HC := Lib.hid (HR0.out.write 3 3 (by decide) (by decide) (by decide))
  clear HR0 hwb
  go_wp2_with fail
  refine HC.out.mono ?_
  rintro e w3 ⟨rfl, hW3⟩
  have HW3 : Hid (RS w w3 wb (.slice none 0 0) 0 (toksV []) [] (hdrL ++ tkBits [])) := Lib.hid hW3
  clear hW3 HC
  go_wp2_with fail
  go_loopw [6, 7, 8] (fun va vh iv wr => ∃ (k h : Nat) (ts : List Tok) (xs : List UInt8), k ≤ l.length ∧ k ≤ 60 ∧ ts.length ≤ k ∧ h ≤ 258 * k ∧ iv = .int .i64 (k : Nat) ∧ vh = .int .i64 (h : Nat) ∧ RowKit.Hid (xs = nextL [] (ts.map tkOf) ∧ xs.length = h ∧ GoodAll [] ts) ∧ RowKit.Hid (RS w wr wb va ts.length (toksV ts) [] (hdrL ++ tkBits ts) ∧ (tkBits ts).length ≤ 60 * k)) (fun _ _ iv _ => 60 - (intOf iv).toNat)
  case atStart => exact ⟨0, 0, [], [], Nat.zero_le _, Nat.zero_le _, Nat.zero_le _, Nat.zero_le _, rfl, rfl, Lib.hid ⟨rfl, rfl, trivial⟩, Lib.hid ⟨HW3.out, Nat.zero_le _⟩⟩
  case round =>
    clear HW3
    obtain ⟨k, h, ts, xs, hk, hk60, htk, hh, rfl, rfl, HX, HR⟩ := hrel
    by_cases hlt : k < l.length ∧ k < 60
    · obtain ⟨hlt, hlt60⟩ := hlt
      have hltI : (k : Int) < (l.length : Int) := by omega
      have hltI2 : (k : Int) < 60 := by omega
      rcases HV.out.2.2.1 with rfl | ⟨g, off, rfl, hcell⟩
      · simp at hlt
      obtain ⟨t, ht⟩ : ∃ t, t = l[k] := ⟨_, rfl⟩
      have hlk : l[k]? = some t := by rw [ht]; exact List.getElem?_eq_getElem hlt
      obtain ⟨a0, a1, a2⟩ := hcell k t hlk
      have b0 := HR.out.1.touch.cell a0 id
      have b1 := HR.out.1.touch.cell a1 id
      have b2 := HR.out.1.touch.cell a2 id
      have hgl : g < wr.heap.size := World.block_lt_of_cell? wr _ b0
      have hk0 : (0 : Int) ≤ (k : Int) := by omega
      clear hcell a0 a1 a2 ht hlk
      go_upto_region 11 with fail
      obtain ⟨p, hp⟩ : ∃ p, p = wr.heap.size := ⟨_, rfl⟩
      rw [← hp]
      have hB : (wr.alloc (.cells (tokA t) 31)).heap[p]? = some (.cells (tokA t) 31) := by rw [hp]; exact heap_alloc_new wr _
      have hT5 : Touch (fun _ => False) wr (wr.alloc (.cells (tokA t) 31)) := (Touch.refl _ wr).alloc _
      change Code.wp _ _ _ _ (wr.alloc (.cells (tokA t) 31))
      generalize wr.alloc (.cells (tokA t) 31) = w5 at hB hT5 ⊢
      have hP := Lib.hid (⟨hB, hT5, hp⟩ : _ ∧ _ ∧ _)
      obtain ⟨x0, x1, x2, y0, y1, y2⟩ := box_cells hB
      have hB9 : w5.heap[p]? = some (.cells #[.int .u8 (t.b.toNat : Nat), .int .i64 t.n, .int .i64 t.d] 31) := hB
      clear hT5 hp hB
      go_cut [45] (fun v wx => v = .bool (!(goodB t && decide (t.d ≤ (h : Int)))) ∧ Touch (fun _ => False) w5 wx)
      case first =>
        go_wp2_with fail
        refine (refgood_calls t w5).mono ?_
        rintro e w6 ⟨rfl, hT6⟩
        have z2 := hT6.cell x2 id
        have HT6 := Lib.hid hT6
        clear hT6
        cases hg : goodB t
        · go_wp2_with fail
          go_meet
          exact ⟨by rw [hg]; rfl, HT6.out⟩
        · go_wp2_with fail
          go_meet
          exact ⟨by rw [hg]; congr 1; rw [Bool.true_and, ← decide_not]; exact decide_eq_decide.2 (by omega), HT6.out⟩
      case rest =>
        obtain ⟨hv45, hT6⟩ := hcut
        have hTc : Touch (fun _ => False) wr wc := hP.out.2.1.trans hT6
        have HRc : Hid (RS w wc wb u6 ts.length (toksV ts) [(p, .cells (tokA t) 31)] (hdrL ++ tkBits ts) ∧ (tkBits ts).length ≤ 60 * k) := Lib.hid ⟨(HR.out.1.add hP.out.2.1 hP.out.1 (Nat.le_of_eq hP.out.2.2.symm)).still hT6, HR.out.2⟩
        cases hgb : (goodB t && decide (t.d ≤ (h : Int)))
        · rw [hgb] at hv45
          subst hv45
          clear hTc hT6 hgb b0 b1 b2 x0 x1 x2 y0 y1 y2 hB9 hP HR
          go_wp2_with fail
          go_roundw
          case rel => exact ⟨k + 1, h, ts, xs, by omega, by omega, by omega, by omega, by go_num, rfl, HX, Lib.hid ⟨HRc.out.1.bare, by have := HRc.out.2; omega⟩⟩
          case measure => simp [intOf]; omega
        · rw [hgb] at hv45
          subst hv45
          rw [Bool.and_eq_true] at hgb
          obtain ⟨hg, hd⟩ := hgb
          have hd := of_decide_eq_true hd
          have z0 := hT6.cell x0 id
          have z1 := hT6.cell x1 id
          have z2 := hT6.cell x2 id
          have hBc : wc.heap[p]? = some (.cells (tokA t) 31) := (hT6.block p (Array.getElem?_eq_some_iff.1 hB9).1 id).trans hP.out.1
          have HON := Lib.hid (own_still HRc.out.1.own ((Touch.refl (fun _ => False) wc).alloc (.cells (tokA t) 31)) (fun _ _ => id))
          have HBC := Lib.hid (⟨hBc, hg, hd⟩ : _ ∧ _ ∧ _)
          have hbz : w.heap.size ≤ (wc.alloc (.cells (tokA t) 31)).heap.size := by have := HRc.out.1.touch.size; rw [alloc_size]; omega
          have hBc9 : wc.heap[p]? = some (.cells #[.int .u8 (t.b.toNat : Nat), .int .i64 t.n, .int .i64 t.d] 31) := hBc
          clear hTc hT6 hg hd b0 b1 b2 x0 x1 x2 y0 y1 y2 hB9 hP HR hBc
          go_upto_region 13 with (at_builtin; refine wpList_append_own_at _ rfl (.tmp 46) (.tmp 48) 28 rfl w.heap.size 31 i0 _ 3 24 Tryd.underlying28 hi hz0 hz1 hz2 rfl (by decide) u6 ts.length (toksV ts) rfl HON.out ⟨wc.heap.size, 0, none⟩ 1 1 (tokV t) rfl rfl (new_at (heap_alloc_new wc _)) (tok_one t) (by unfold maxLen; omega) (by omega) hbz ?_; intro v2 w7 hrow7 hgrow7 _ hown7)
          have HR7 := Lib.hid (HRc.out.1.append hgrow7 hrow7 hown7)
          obtain ⟨x0, x1, x2, _, _, _⟩ := box_cells (HR7.out.box _ (List.mem_singleton.2 rfl)).1
          have HTB := Lib.hid HRc.out.2
          clear hrow7 hgrow7 hown7 HON HRc z0 z1 z2 hbz
          by_cases hn : t.n = 0
          · rw [hn] at x1
            have hb0 : (0 : Int) ≤ (t.b.toNat : Int) := by omega
            have hb1 : (t.b.toNat : Int) < 256 := by have := t.b.toNat_lt; omega
            have HC8 := Lib.hid (HR7.out.sym t.b.toNat (by omega) (by rw [List.length_append]; have := HTB.out; show 3 + _ < _; omega))
            clear HR7
            go_wp2_with fail
            refine HC8.out.mono ?_
            rintro e w8 ⟨rfl, hR8⟩
            have HR8 := Lib.hid (hR8.next (tk_lit hn).symm)
            clear hR8 HC8
            go_wp2_with fail
            go_roundw
            case rel => exact ⟨k + 1, h + 1, ts ++ [t], _, by omega, by omega, by rw [List.length_append]; exact Nat.succ_le_succ htk, by omega, by go_num, by go_num, Lib.hid (by have := xs_next HX.out HBC.out.2.1 HBC.out.2.2; rw [hn] at this; exact this), Lib.hid ⟨HR8.out, by rw [tkBits_snoc, List.length_append]; have := HTB.out; have := tk_len HBC.out.2.1; omega⟩⟩
            case measure => simp [intOf]; omega
          · have hm := good_mat HBC.out.2.1 hn
            obtain ⟨nn, hnn⟩ : ∃ nn : Nat, t.n = nn := ⟨t.n.toNat, by omega⟩
            obtain ⟨dd, hdd⟩ : ∃ dd : Nat, t.d = dd := ⟨t.d.toNat, by omega⟩
            rw [hnn] at x1
            rw [hdd] at x2
            have hn0 : ¬ (nn : Int) = 0 := by omega
            have hnr : 3 ≤ nn ∧ nn ≤ 258 ∧ 1 ≤ dd ∧ dd ≤ 32768 := by omega
            have hmx : max (nn : Int) 1 = (nn : Int) := by omega
            have HM := Lib.hid (⟨hnn, hdd, hn, hmx⟩ : _ ∧ _ ∧ _ ∧ _)
            clear hn hm hnn hdd
            go_upto_region 16 with fail
            obtain ⟨w9, hw9⟩ : ∃ W, W = w7 := ⟨_, rfl⟩
            rw [← hw9] at HR7 x0 x1 x2 ⊢
            clear hw9
            have HX1 := Lib.hid (fun W (hW : Touch (fun _ => False) w9 W) => hW.cell x1 id)
            go_cut [10] (fun v wx => ∃ q, v = .pointer (some ⟨q, 0, none⟩) ∧ w9.heap.size ≤ q ∧ wx.heap[q]? = some (.cells #[.int .i64 (lenS nn : Nat), .int .i64 (nn - lenV nn : Nat), .int .i64 (lenB nn : Nat)] 37) ∧ Touch (fun _ => False) w9 wx)
            case first =>
              have x1a := ((Touch.refl (fun _ => False) w9).alloc (.cells #[.int .i64 0, .int .i64 0, .int .i64 0] 37)).cell x1 id
              go_region_law (first | (go_simp; go_at_call 12; refine (lengths_calls _).mono ?_; rintro e W ⟨tv, rfl, htr, hTL⟩; have hT1 : Touch (fun _ => False) w9 W := (Touch.trans (by ((repeat (first | with_reducible apply Touch.drew | with_reducible apply Touch.alloc)); exact Touch.refl _ _)) hTL); have zL := HX1.out _ hT1; have zL2 := ((Touch.refl (fun _ => False) W).alloc (.cells #[.int .i64 0, .int .i64 0, .int .i64 0] 37)).cell zL id; (try (first | (have hAB := alloc_boxe hTL; obtain ⟨q0, q1, q2, g0, g1, g2, g3⟩ := hAB) | (have hAB := alloc_boxd hTL; obtain ⟨q0, q1, q2, g0, g1, g2, g3⟩ := hAB) | (have hAB := alloc_box hTL; obtain ⟨q0, q1, q2, g0, g1, g2, g3⟩ := hAB)))) | (go_simp; go_at_call 11; refine (find_len_calls _ _ nn hnr.1 hnr.2.1 (Trs.still htr (by ((repeat (first | with_reducible apply Touch.drew | with_reducible apply Touch.alloc)); exact Touch.refl _ _)))).mono ?_; rintro e W2 ⟨rfl, hTF⟩; have hT2 : Touch (fun _ => False) w9 W2 := Touch.trans (by ((repeat (first | with_reducible apply Touch.drew | with_reducible apply Touch.alloc)); exact hT1)) hTF; (try (first | (have hAC := alloc_boxe hTF; obtain ⟨r0, r1, r2, k0, k1, k2, k3⟩ := hAC) | (have hAC := alloc_boxd hTF; obtain ⟨r0, r1, r2, k0, k1, k2, k3⟩ := hAC) | (have hAC := alloc_box hTF; obtain ⟨r0, r1, r2, k0, k1, k2, k3⟩ := hAC))); (try (have hAC := box_keep g3 hTF; obtain ⟨r0, r1, r2, k0, k1, k2, k3⟩ := hAC))))
              all_goals
                go_wp2_with fail
                go_meet
                refine ⟨_, rfl, ?_, ?_, ?_⟩
                · first | exact Nat.le_refl _ | exact hT1.size | exact hT2.size
                · first | exact heap_alloc_new _ _ | exact box_set3b k3
                · first | exact hT2.alloc _ | exact Touch.set3 hT2 (.inr (Nat.le_refl _)) _ _ _ | exact Touch.set3 hT2 (.inr hT1.size) _ _ _
            case rest =>
              obtain ⟨q, hv10, hq, hqb, hTq⟩ := hcut
              subst hv10
              have HR10 := Lib.hid (HR7.out.add hTq hqb hq)
              obtain ⟨y0, y1, y2, _, _, _⟩ := box_cells hqb
              clear HR7 hTq hqb hq HX1 x0 x1 x2
              have hls : lenS nn < 288 ∧ lenV nn ≤ nn ∧ lenB nn ≤ 5 := by
                obtain ⟨s, hs, e1, e2, e3, e4, e5, _⟩ := len_facts nn hnr.1 hnr.2.1
                omega
              have HC11 := Lib.hid (HR10.out.sym (lenS nn) hls.1 (by rw [List.length_append]; have := HTB.out; show 3 + _ < _; omega))
              obtain ⟨hls1, hls2, hls3⟩ := hls
              clear HR10
              go_wp2_with fail
              refine HC11.out.mono ?_
              rintro e w11 ⟨rfl, hR11⟩
              have HR11 := Lib.hid hR11
              clear hR11 HC11
              obtain ⟨x0, x1, x2, _, _, _⟩ := box_cells (HR11.out.box _ (List.mem_cons_of_mem _ List.mem_cons_self)).1
              rw [HM.out.1] at x1
              rw [HM.out.2.1] at x2
              obtain ⟨y0, y1, y2, _, _, _⟩ := box_cells (HR11.out.box _ List.mem_cons_self).1
              have HC13 := Lib.hid (HR11.out.write (lenV nn) (lenB nn) (by omega) (by omega) (by simp only [List.length_append]; have := HTB.out; have := fw_len (lenS nn); show 3 + _ + _ < _; omega))
              have HU := Lib.hid (show (nn : Int) - ((nn - lenV nn : Nat) : Int) = ((lenV nn : Nat) : Int) by omega)
              clear HR11
              go_wp2_with fail
              rw [HU.out]
              refine HC13.out.mono ?_
              rintro e w12 ⟨rfl, hR12⟩
              have HR12 := Lib.hid hR12
              clear hR12 HC13 y0 y1 y2 x0 x1 x2 HU
              obtain ⟨x0, x1, x2, _, _, _⟩ := box_cells (HR12.out.box _ (List.mem_cons_of_mem _ List.mem_cons_self)).1
              rw [HM.out.1] at x1
              rw [HM.out.2.1] at x2
              go_upto_region 19 with fail
              have HX2 := Lib.hid (fun W (hW : Touch (fun _ => False) w12 W) => hW.cell x2 id)
              go_cut [11] (fun v wx => ∃ r, v = .pointer (some ⟨r, 0, none⟩) ∧ w12.heap.size ≤ r ∧ wx.heap[r]? = some (.cells #[.int .i64 (symN 1 (dd - 1) : Nat), .int .i64 (dd - valN 1 (dd - 1) : Nat), .int .i64 (bitN 1 (dd - 1) : Nat)] 37) ∧ Touch (fun _ => False) w12 wx)
              case first =>
                have x2a := ((Touch.refl (fun _ => False) w12).alloc (.cells #[.int .i64 0, .int .i64 0, .int .i64 0] 37)).cell x2 id
                go_region_law (first | (go_simp; go_at_call 13; refine (dists_calls _).mono ?_; rintro e W ⟨tv, rfl, htr, hTL⟩; have hT1 : Touch (fun _ => False) w12 W := (Touch.trans (by ((repeat (first | with_reducible apply Touch.drew | with_reducible apply Touch.alloc)); exact Touch.refl _ _)) hTL); have zL := HX2.out _ hT1; have zL2 := ((Touch.refl (fun _ => False) W).alloc (.cells #[.int .i64 0, .int .i64 0, .int .i64 0] 37)).cell zL id; (try (first | (have hAB := alloc_boxe hTL; obtain ⟨q0, q1, q2, g0, g1, g2, g3⟩ := hAB) | (have hAB := alloc_boxd hTL; obtain ⟨q0, q1, q2, g0, g1, g2, g3⟩ := hAB) | (have hAB := alloc_box hTL; obtain ⟨q0, q1, q2, g0, g1, g2, g3⟩ := hAB)))) | (go_simp; go_at_call 11; refine (find_dist_calls _ _ dd hnr.2.2.1 hnr.2.2.2 (Trs.still htr (by ((repeat (first | with_reducible apply Touch.drew | with_reducible apply Touch.alloc)); exact Touch.refl _ _)))).mono ?_; rintro e W2 ⟨rfl, hTF⟩; have hT2 : Touch (fun _ => False) w12 W2 := Touch.trans (by ((repeat (first | with_reducible apply Touch.drew | with_reducible apply Touch.alloc)); exact hT1)) hTF; (try (first | (have hAC := alloc_boxe hTF; obtain ⟨r0, r1, r2, k0, k1, k2, k3⟩ := hAC) | (have hAC := alloc_boxd hTF; obtain ⟨r0, r1, r2, k0, k1, k2, k3⟩ := hAC) | (have hAC := alloc_box hTF; obtain ⟨r0, r1, r2, k0, k1, k2, k3⟩ := hAC))); (try (have hAC := box_keep g3 hTF; obtain ⟨r0, r1, r2, k0, k1, k2, k3⟩ := hAC))))
                all_goals
                  go_wp2_with fail
                  go_meet
                  refine ⟨_, rfl, ?_, ?_, ?_⟩
                  · first | exact Nat.le_refl _ | exact hT1.size | exact hT2.size
                  · first | exact heap_alloc_new _ _ | exact box_set3b k3
                  · first | exact hT2.alloc _ | exact Touch.set3 hT2 (.inr (Nat.le_refl _)) _ _ _ | exact Touch.set3 hT2 (.inr hT1.size) _ _ _
              case rest =>
                obtain ⟨r, hv11, hr, hrb, hTr⟩ := hcut
                subst hv11
                have HR14 := Lib.hid (HR12.out.add hTr hrb hr)
                obtain ⟨y0, y1, y2, _, _, _⟩ := box_cells hrb
                clear HR12 hTr hrb hr HX2 x0 x1 x2
                have hds : symN 1 (dd - 1) < 30 ∧ valN 1 (dd - 1) < 32768 ∧ valN 1 (dd - 1) ≤ dd ∧ bitN 1 (dd - 1) ≤ 13 := by
                  obtain ⟨s, hs, e1, e2, e3, e4, e5⟩ := dist_facts dd hnr.2.2.1 hnr.2.2.2
                  omega
                have HLN := Lib.hid (show ((hdrL ++ tkBits ts ++ fw (lenS nn)) ++ bitsN (lenB nn) (lenV nn)).length ≤ 5000 by simp only [List.length_append, bitsN_length]; have := HTB.out; have := fw_len (lenS nn); show 3 + _ + _ + _ ≤ _; omega)
                have HC15 := Lib.hid (HR14.out.high (symN 1 (dd - 1)) (by omega) (by have := HLN.out; omega))
                obtain ⟨hds1, hds2, hds3, hds4⟩ := hds
                clear HR14
                go_wp2_with fail
                refine HC15.out.mono ?_
                rintro e w15 ⟨rfl, hR15⟩
                have HR15 := Lib.hid hR15
                clear hR15 HC15 y0 y1 y2
                obtain ⟨x0, x1, x2, _, _, _⟩ := box_cells (HR15.out.box _ (List.mem_cons_of_mem _ (List.mem_cons_of_mem _ List.mem_cons_self))).1
                rw [HM.out.1] at x1
                rw [HM.out.2.1] at x2
                obtain ⟨y0, y1, y2, _, _, _⟩ := box_cells (HR15.out.box _ List.mem_cons_self).1
                have HC16 := Lib.hid (HR15.out.write (valN 1 (dd - 1)) (bitN 1 (dd - 1)) (by omega) (by omega) (by rw [List.length_append, msb_len]; have := HLN.out; omega))
                have HU := Lib.hid (show (dd : Int) - ((dd - valN 1 (dd - 1) : Nat) : Int) = ((valN 1 (dd - 1) : Nat) : Int) by omega)
                clear HR15
                go_wp2_with fail
                rw [HU.out]
                refine HC16.out.mono ?_
                rintro e w16 ⟨rfl, hR16⟩
                have HR16 := Lib.hid (RS.next (ts := ts) (t := t) (x := fw (lenS nn) ++ bitsN (lenB nn) (lenV nn) ++ msb 5 (symN 1 (dd - 1)) ++ bitsN (bitN 1 (dd - 1)) (valN 1 (dd - 1))) (by simp only [List.append_assoc] at hR16 ⊢; exact hR16) (tk_mat HM.out.1 HM.out.2.1 hnr.1 hnr.2.1 hnr.2.2.1 hnr.2.2.2).symm)
                clear hR16 HC16 x0 x1 x2 y0 y1 y2
                go_wp2_with fail
                go_roundw
                case rel => exact ⟨k + 1, h + nn, ts ++ [t], _, by omega, by omega, by rw [List.length_append]; exact Nat.succ_le_succ htk, by omega, by go_num, by go_num, Lib.hid (by have := xs_next HX.out HBC.out.2.1 HBC.out.2.2; rw [HM.out.1, show max (nn : Int).toNat 1 = nn by omega] at this; exact this), Lib.hid ⟨HR16.out, by rw [tkBits_snoc, List.length_append]; have := HTB.out; have := tk_len HBC.out.2.1; omega⟩⟩
                case measure => simp [intOf]; omega
    · by_cases hkl : k < l.length
      · have h1 : (k : Int) < (l.length : Int) := by omega
        have h2 : ¬ (k : Int) < 60 := by omega
        clear hlt
        go_wp2_with fail
        have HCS := Lib.hid (HR.out.1.sym 256 (by decide) (by rw [List.length_append]; have := HR.out.2; show 3 + _ < _; omega))
        have HLN := Lib.hid (show (hdrL ++ tkBits ts ++ fw 256).length ≤ 4000 by rw [List.length_append, List.length_append]; have := HR.out.2; have := fw_len 256; show 3 + _ + _ ≤ _; omega)
        clear HR
        refine HCS.out.mono ?_
        rintro e w4 ⟨rfl, hR4⟩
        have HA := Lib.hid (hR4.align (by have := HLN.out; omega))
        clear hR4 HCS
        go_wp2_with fail
        refine HA.out.mono ?_
        rintro e w5 ⟨rfl, hR5⟩
        have HD := Lib.hid hR5.drain
        clear hR5 HA
        go_wp2_with fail
        refine HD.out.mono ?_
        rintro e w6 ⟨T, rfl, hS, hown, hT6⟩
        have HT6 := Lib.hid (⟨hS, hT6⟩ : _ ∧ _)
        obtain ⟨ho1, ho2⟩ := tks_ok ts [] HX.out.2.2
        have hex := refexpand_calls ⟨#[]⟩ ts u6 w6 (Toks.of_own hown) (by decide) (by omega)
        have he2 : expandL (⟨#[]⟩ : ByteArray).data.toList ts = some xs := by rw [HX.out.1]; exact ho2
        rw [he2] at hex
        have HE : Hid (Calls Tryd.prog 17 #[.string ⟨#[]⟩, u6] w6 fun e w' => e = .returned (.tuple #[.string ⟨xs.toArray⟩, .bool true]) ∧ Touch (fun _ => False) w6 w') := Lib.hid hex
        clear hex he2 ho1 ho2 hS hown hT6 HD
        go_wp2_with fail
        refine HE.out.mono ?_
        rintro e w7 ⟨rfl, hT7⟩
        have HT7 := Lib.hid (HT6.out.2.trans hT7)
        clear hT7 HE
        obtain ⟨m, hm⟩ : ∃ m : Nat, z % 8 = m := ⟨(z % 8).toNat, by omega⟩
        have hm8 : m < 8 := by omega
        have hand : bits .and .i64 z 7 = (m : Int) := by rw [i64_and7, hm]
        have hm1 : (1 : Int) + (m : Int) = ((1 + m : Nat) : Int) := by omega
        obtain ⟨P, hP⟩ : ∃ P, P = 1 + m := ⟨_, rfl⟩
        have hP1 : 1 ≤ P ∧ P ≤ 8 := by omega
        rw [← hP] at hm1
        clear hm hP
        go_wp2_with fail
        refine (inew_calls w7).mono ?_
        rintro e w8 ⟨db, rfl, hdb, hD8⟩
        obtain ⟨n, c, bs, o, hch, hn, hc0, hfl, htl⟩ := fixed_chain ts HX.out.2.2 (by omega)
        have hbt : bitsL T.data.toList = flat bs 0 n ++ List.replicate (padN (hdrL ++ tkBits ts ++ fw 256).length) 0 := by
          rw [HT6.out.1, hfl]
          show hdrL ++ tkBits ts ++ fw 256 ++ _ = hdrL ++ (tkBits ts ++ fw 256) ++ _
          simp only [List.append_assoc]
        have hpd : (List.replicate (padN (hdrL ++ tkBits ts ++ fw 256).length) 0).length < 8 := by
          rw [List.length_replicate]; unfold padN; omega
        have hTz := data_length T
        have hTl : 0 < T.size ∧ T.size < 100000 := by
          have h1 := congrArg List.length HT6.out.1
          rw [bitsL_length, List.length_append, List.length_replicate, hTz] at h1
          have h2 := HLN.out
          have h3 : 3 ≤ (hdrL ++ tkBits ts ++ fw 256).length := by rw [List.length_append, List.length_append]; show 3 ≤ 3 + _ + _; omega
          unfold padN at h1
          omega
        have htx : tl o 0 n = xs := by rw [htl, HX.out.1]
        have htz : (tl o 0 n).length ≤ 20000 := by rw [htx, HX.out.2.1]; omega
        have HF8 := Lib.hid (fed_first (S := T.data.toList) (bs := bs) (o := o) hn hc0 (by rw [hTz]; exact hTl.1) hD8)
        have HCH := Lib.hid (⟨hch, hbt, hpd, tl_le htz, htx⟩ : _ ∧ _ ∧ _ ∧ _ ∧ _)
        have HTZ := Lib.hid hTz
        clear hD8 hch hbt hpd htz htx hfl htl hn hc0 hdb hTz HT6
        go_wp2_with fail
        go_loopw [16, 17] (fun vs iv wr => ∃ (j : Nat) (G : ByteArray), iv = .int .i64 (j : Nat) ∧ vs = .string G ∧ j ≤ T.size + 8 ∧ G.size ≤ 20000 ∧ RowKit.Hid (FedAt n c bs o T.data.toList w7 wr db j G.data.toList)) (fun _ iv _ => T.size + 8 - (intOf iv).toNat)
        case atStart => exact ⟨0, ⟨#[]⟩, rfl, rfl, by omega, by decide, HF8⟩
        case round =>
          clear HF8
          obtain ⟨j, G, rfl, rfl, hj, hG, HF⟩ := hrel
          by_cases hlt : j < T.size
          · have hltI : (j : Int) < (T.size : Int) := by omega
            obtain ⟨q, hq⟩ : ∃ q : Nat, (q : Int) = min ((j : Int) + (P : Int)) (T.size : Int) := ⟨(min ((j : Int) + (P : Int)) (T.size : Int)).toNat, by omega⟩
            have hq1 : j ≤ q ∧ q ≤ T.size := by omega
            have HC := Lib.hid (fed_round HCH.out.1 HCH.out.2.1 HCH.out.2.2.1 (by rw [HTZ.out]; exact hTl.2) HCH.out.2.2.2.1 (m := P) (by rw [HTZ.out]; exact hlt) HF.out (T.extract j q) (piece_list T j P q hq))
            have HQ := Lib.hid hq
            have hb1 : (j : Int) + (P : Int) ≤ 9223372036854775807 := by omega
            have hb0 : -9223372036854775808 ≤ (j : Int) + (P : Int) := by omega
            by_cases hle : (j : Int) + (P : Int) ≤ (T.size : Int)
            · have hqe : ((j : Int) + (P : Int)).toNat = q := by omega
              clear HF hq hltI
              have hltI : (j : Int) < (T.size : Int) := by omega
              go_wp2_with fail
              refine HC.out.mono ?_
              rintro e w9 ⟨out, rfl, hF9, hz9⟩
              have HF9 : Hid (FedAt n c bs o T.data.toList w7 w9 db (j + P) (G ++ ⟨out.toArray⟩ : ByteArray).data.toList ∧ (G ++ ⟨out.toArray⟩ : ByteArray).size ≤ 20000) := Lib.hid (by
                have e1 : (G ++ ⟨out.toArray⟩ : ByteArray).data.toList = G.data.toList ++ out := by simp
                rw [← data_length, e1]
                exact ⟨hF9, hz9⟩)
              have hng : ¬ 9223372036854775807 < G.size + out.length := by rw [List.length_append, data_length] at hz9; omega
              clear HC hF9 hz9
              go_wp2_with fail
              go_roundw
              case rel => exact ⟨j + P, G ++ ⟨out.toArray⟩, by go_num, rfl, by omega, HF9.out.2, Lib.hid HF9.out.1⟩
              case measure => simp [intOf]; omega
            · have hqe : T.size = q := by omega
              have HQE := Lib.hid (show T.extract j T.size = T.extract j q by rw [← hqe])
              clear HF hq hqe
              go_wp2_with fail
              rw [HQE.out]
              refine HC.out.mono ?_
              rintro e w9 ⟨out, rfl, hF9, hz9⟩
              have HF9 : Hid (FedAt n c bs o T.data.toList w7 w9 db (j + P) (G ++ ⟨out.toArray⟩ : ByteArray).data.toList ∧ (G ++ ⟨out.toArray⟩ : ByteArray).size ≤ 20000) := Lib.hid (by
                have e1 : (G ++ ⟨out.toArray⟩ : ByteArray).data.toList = G.data.toList ++ out := by simp
                rw [← data_length, e1]
                exact ⟨hF9, hz9⟩)
              have hng : ¬ 9223372036854775807 < G.size + out.length := by rw [List.length_append, data_length] at hz9; omega
              clear HC hF9 hz9
              go_wp2_with fail
              go_roundw
              case rel => exact ⟨j + P, G ++ ⟨out.toArray⟩, by go_num, rfl, by omega, HF9.out.2, Lib.hid HF9.out.1⟩
              case measure => simp [intOf]; omega
          · have hltI : ¬ (j : Int) < (T.size : Int) := by omega
            rcases HF.out with ⟨hx, _⟩ | ⟨_, hgot, hE, hT9⟩
            · exact absurd hx (by rw [HTZ.out]; exact hlt)
            have hGx : G = ⟨xs.toArray⟩ := by
              have e1 : G.data = xs.toArray := by
                apply Array.ext'
                rw [hgot, HCH.out.2.2.2.2]
              cases G
              exact congrArg ByteArray.mk e1
            subst hGx
            rw [HTZ.out] at hE
            have HE9 := Lib.hid (⟨hE, HT7.out.trans hT9⟩ : _ ∧ _)
            clear hE hT9 hgot HF
            go_wp2_with fail
            refine (idone_end HE9.out.1.1).mono ?_
            rintro e w9 ⟨rfl, rfl⟩
            go_wp2_with fail
            refine (irest_end HE9.out.1).mono ?_
            rintro e w9 ⟨rfl, rfl⟩
            go_wp2_with fail
            refine (iused_end HE9.out.1 (by omega) (Nat.zero_le _)).mono ?_
            rintro e w9 ⟨rfl, hT10⟩
            have HT10 := Lib.hid (HE9.out.2.trans hT10)
            clear hT10 HE9
            go_wp2_with fail
            go_ret
            exact ⟨rfl, HT10.out⟩
      · have h1 : ¬ (k : Int) < (l.length : Int) := by omega
        clear hlt
        go_wp2_with fail
        have HCS := Lib.hid (HR.out.1.sym 256 (by decide) (by rw [List.length_append]; have := HR.out.2; show 3 + _ < _; omega))
        have HLN := Lib.hid (show (hdrL ++ tkBits ts ++ fw 256).length ≤ 4000 by rw [List.length_append, List.length_append]; have := HR.out.2; have := fw_len 256; show 3 + _ + _ ≤ _; omega)
        clear HR
        refine HCS.out.mono ?_
        rintro e w4 ⟨rfl, hR4⟩
        have HA := Lib.hid (hR4.align (by have := HLN.out; omega))
        clear hR4 HCS
        go_wp2_with fail
        refine HA.out.mono ?_
        rintro e w5 ⟨rfl, hR5⟩
        have HD := Lib.hid hR5.drain
        clear hR5 HA
        go_wp2_with fail
        refine HD.out.mono ?_
        rintro e w6 ⟨T, rfl, hS, hown, hT6⟩
        have HT6 := Lib.hid (⟨hS, hT6⟩ : _ ∧ _)
        obtain ⟨ho1, ho2⟩ := tks_ok ts [] HX.out.2.2
        have hex := refexpand_calls ⟨#[]⟩ ts u6 w6 (Toks.of_own hown) (by decide) (by omega)
        have he2 : expandL (⟨#[]⟩ : ByteArray).data.toList ts = some xs := by rw [HX.out.1]; exact ho2
        rw [he2] at hex
        have HE : Hid (Calls Tryd.prog 17 #[.string ⟨#[]⟩, u6] w6 fun e w' => e = .returned (.tuple #[.string ⟨xs.toArray⟩, .bool true]) ∧ Touch (fun _ => False) w6 w') := Lib.hid hex
        clear hex he2 ho1 ho2 hS hown hT6 HD
        go_wp2_with fail
        refine HE.out.mono ?_
        rintro e w7 ⟨rfl, hT7⟩
        have HT7 := Lib.hid (HT6.out.2.trans hT7)
        clear hT7 HE
        obtain ⟨m, hm⟩ : ∃ m : Nat, z % 8 = m := ⟨(z % 8).toNat, by omega⟩
        have hm8 : m < 8 := by omega
        have hand : bits .and .i64 z 7 = (m : Int) := by rw [i64_and7, hm]
        have hm1 : (1 : Int) + (m : Int) = ((1 + m : Nat) : Int) := by omega
        obtain ⟨P, hP⟩ : ∃ P, P = 1 + m := ⟨_, rfl⟩
        have hP1 : 1 ≤ P ∧ P ≤ 8 := by omega
        rw [← hP] at hm1
        clear hm hP
        go_wp2_with fail
        refine (inew_calls w7).mono ?_
        rintro e w8 ⟨db, rfl, hdb, hD8⟩
        obtain ⟨n, c, bs, o, hch, hn, hc0, hfl, htl⟩ := fixed_chain ts HX.out.2.2 (by omega)
        have hbt : bitsL T.data.toList = flat bs 0 n ++ List.replicate (padN (hdrL ++ tkBits ts ++ fw 256).length) 0 := by
          rw [HT6.out.1, hfl]
          show hdrL ++ tkBits ts ++ fw 256 ++ _ = hdrL ++ (tkBits ts ++ fw 256) ++ _
          simp only [List.append_assoc]
        have hpd : (List.replicate (padN (hdrL ++ tkBits ts ++ fw 256).length) 0).length < 8 := by
          rw [List.length_replicate]; unfold padN; omega
        have hTz := data_length T
        have hTl : 0 < T.size ∧ T.size < 100000 := by
          have h1 := congrArg List.length HT6.out.1
          rw [bitsL_length, List.length_append, List.length_replicate, hTz] at h1
          have h2 := HLN.out
          have h3 : 3 ≤ (hdrL ++ tkBits ts ++ fw 256).length := by rw [List.length_append, List.length_append]; show 3 ≤ 3 + _ + _; omega
          unfold padN at h1
          omega
        have htx : tl o 0 n = xs := by rw [htl, HX.out.1]
        have htz : (tl o 0 n).length ≤ 20000 := by rw [htx, HX.out.2.1]; omega
        have HF8 := Lib.hid (fed_first (S := T.data.toList) (bs := bs) (o := o) hn hc0 (by rw [hTz]; exact hTl.1) hD8)
        have HCH := Lib.hid (⟨hch, hbt, hpd, tl_le htz, htx⟩ : _ ∧ _ ∧ _ ∧ _ ∧ _)
        have HTZ := Lib.hid hTz
        clear hD8 hch hbt hpd htz htx hfl htl hn hc0 hdb hTz HT6
        go_wp2_with fail
        go_loopw [16, 17] (fun vs iv wr => ∃ (j : Nat) (G : ByteArray), iv = .int .i64 (j : Nat) ∧ vs = .string G ∧ j ≤ T.size + 8 ∧ G.size ≤ 20000 ∧ RowKit.Hid (FedAt n c bs o T.data.toList w7 wr db j G.data.toList)) (fun _ iv _ => T.size + 8 - (intOf iv).toNat)
        case atStart => exact ⟨0, ⟨#[]⟩, rfl, rfl, by omega, by decide, HF8⟩
        case round =>
          clear HF8
          obtain ⟨j, G, rfl, rfl, hj, hG, HF⟩ := hrel
          by_cases hlt : j < T.size
          · have hltI : (j : Int) < (T.size : Int) := by omega
            obtain ⟨q, hq⟩ : ∃ q : Nat, (q : Int) = min ((j : Int) + (P : Int)) (T.size : Int) := ⟨(min ((j : Int) + (P : Int)) (T.size : Int)).toNat, by omega⟩
            have hq1 : j ≤ q ∧ q ≤ T.size := by omega
            have HC := Lib.hid (fed_round HCH.out.1 HCH.out.2.1 HCH.out.2.2.1 (by rw [HTZ.out]; exact hTl.2) HCH.out.2.2.2.1 (m := P) (by rw [HTZ.out]; exact hlt) HF.out (T.extract j q) (piece_list T j P q hq))
            have HQ := Lib.hid hq
            have hb1 : (j : Int) + (P : Int) ≤ 9223372036854775807 := by omega
            have hb0 : -9223372036854775808 ≤ (j : Int) + (P : Int) := by omega
            by_cases hle : (j : Int) + (P : Int) ≤ (T.size : Int)
            · have hqe : ((j : Int) + (P : Int)).toNat = q := by omega
              clear HF hq hltI
              have hltI : (j : Int) < (T.size : Int) := by omega
              go_wp2_with fail
              refine HC.out.mono ?_
              rintro e w9 ⟨out, rfl, hF9, hz9⟩
              have HF9 : Hid (FedAt n c bs o T.data.toList w7 w9 db (j + P) (G ++ ⟨out.toArray⟩ : ByteArray).data.toList ∧ (G ++ ⟨out.toArray⟩ : ByteArray).size ≤ 20000) := Lib.hid (by
                have e1 : (G ++ ⟨out.toArray⟩ : ByteArray).data.toList = G.data.toList ++ out := by simp
                rw [← data_length, e1]
                exact ⟨hF9, hz9⟩)
              have hng : ¬ 9223372036854775807 < G.size + out.length := by rw [List.length_append, data_length] at hz9; omega
              clear HC hF9 hz9
              go_wp2_with fail
              go_roundw
              case rel => exact ⟨j + P, G ++ ⟨out.toArray⟩, by go_num, rfl, by omega, HF9.out.2, Lib.hid HF9.out.1⟩
              case measure => simp [intOf]; omega
            · have hqe : T.size = q := by omega
              have HQE := Lib.hid (show T.extract j T.size = T.extract j q by rw [← hqe])
              clear HF hq hqe
              go_wp2_with fail
              rw [HQE.out]
              refine HC.out.mono ?_
              rintro e w9 ⟨out, rfl, hF9, hz9⟩
              have HF9 : Hid (FedAt n c bs o T.data.toList w7 w9 db (j + P) (G ++ ⟨out.toArray⟩ : ByteArray).data.toList ∧ (G ++ ⟨out.toArray⟩ : ByteArray).size ≤ 20000) := Lib.hid (by
                have e1 : (G ++ ⟨out.toArray⟩ : ByteArray).data.toList = G.data.toList ++ out := by simp
                rw [← data_length, e1]
                exact ⟨hF9, hz9⟩)
              have hng : ¬ 9223372036854775807 < G.size + out.length := by rw [List.length_append, data_length] at hz9; omega
              clear HC hF9 hz9
              go_wp2_with fail
              go_roundw
              case rel => exact ⟨j + P, G ++ ⟨out.toArray⟩, by go_num, rfl, by omega, HF9.out.2, Lib.hid HF9.out.1⟩
              case measure => simp [intOf]; omega
          · have hltI : ¬ (j : Int) < (T.size : Int) := by omega
            rcases HF.out with ⟨hx, _⟩ | ⟨_, hgot, hE, hT9⟩
            · exact absurd hx (by rw [HTZ.out]; exact hlt)
            have hGx : G = ⟨xs.toArray⟩ := by
              have e1 : G.data = xs.toArray := by
                apply Array.ext'
                rw [hgot, HCH.out.2.2.2.2]
              cases G
              exact congrArg ByteArray.mk e1
            subst hGx
            rw [HTZ.out] at hE
            have HE9 := Lib.hid (⟨hE, HT7.out.trans hT9⟩ : _ ∧ _)
            clear hE hT9 hgot HF
            go_wp2_with fail
            refine (idone_end HE9.out.1.1).mono ?_
            rintro e w9 ⟨rfl, rfl⟩
            go_wp2_with fail
            refine (irest_end HE9.out.1).mono ?_
            rintro e w9 ⟨rfl, rfl⟩
            go_wp2_with fail
            refine (iused_end HE9.out.1 (by omega) (Nat.zero_le _)).mono ?_
            rintro e w9 ⟨rfl, hT10⟩
            have HT10 := Lib.hid (HE9.out.2.trans hT10)
            clear hT10 HE9
            go_wp2_with fail
            go_ret
            exact ⟨rfl, HT10.out⟩
end Go.Proofs.YtbbhilmkipghiaaDoor
