/- The statement DiskImages over the translated program. -/
import Derived.Test.YtjjpknmjkhaahaaDiP
namespace Go.Proofs.Ytjjpknmjkhaahaa
open Go Go.RowKit Go.Maps
set_option maxRecDepth 100000

/-- The state behind some acts. -/
def DiSt (b lb mb cd rx T : Nat) (w0 w : World) : Prop := ∃ L C t a2 k2 cv, DkAt w b lb mb cd 6 L C t (-1) true ∧ t ≤ T ∧ RAt b lb mb rx w L C a2 k2 cv ∧ Touch (fun _ => False) w0 w

set_option maxHeartbeats 8000000 in
theorem dimages_calls (l : List DAct) (z : Int) (v : Value) (w : World) (hl : DActs w v l) :
    Calls Try.prog 3 #[v, .int .i64 z] w fun e w' => e = .returned (.bool true) ∧ Touch (fun _ => False) w w' := by
  obtain ⟨i0, hi, hz0, hz1, hz2⟩ := info_parts Try.infoStr
  obtain ⟨a, cap, hv, hc1, hc2⟩ := hl.form
  unfold maxLen at hc2
  have HL := Lib.hid hl
  clear hl
  subst hv
  go_enter Try.func3, Try.ntmps3
  go_wp2_with fail
  refine (speaks17_calls w).mono ?_
  rintro e w1 ⟨rfl, hT1⟩
  go_wp2_with fail
  refine (new_calls 6 w1 (by omega) (by omega)).mono ?_
  rintro e w2 ⟨b, lb, mb, rfl, hD2, hN, hT2⟩
  have hT02 := hT1.trans hT2
  have hs1 := hT1.size
  have hs2 := hD2.lt
  have HD2 := Lib.hid hD2
  have HNS : Hid (∀ i, DkS b lb mb i → w.heap.size ≤ i) := Lib.hid (fun i hi => by rcases hi with h | h | h <;> omega)
  clear hD2
  generalize hcd : (6 * 64 : Nat) = cd at HD2
  have HCD := Lib.hid hcd
  clear hcd
  go_upto_region 5 with fail
  obtain ⟨rx, hrx⟩ : ∃ x, x = w2.heap.size := ⟨_, rfl⟩
  try rw [← hrx]
  have hM3 : DAt (w2.alloc (.cells #[.slice none 0 0, .slice none 0 0, .bool false, .int .i64 (-1)] 31)) rx (.slice none 0 0) (.slice none 0 0) false (-1) := by rw [hrx]; exact Block.new _ _ _
  have hT3 : Touch (fun _ => False) w2 (w2.alloc (.cells #[.slice none 0 0, .slice none 0 0, .bool false, .int .i64 (-1)] 31)) := (Touch.refl _ _).alloc _
  generalize w2.alloc (.cells #[.slice none 0 0, .slice none 0 0, .bool false, .int .i64 (-1)] 31) = w3 at hM3 hT3 ⊢
  have hrl : rx < w3.heap.size := Block.lt hM3
  have hs3 := hT3.size
  have hT03 := hT02.trans hT3
  have HD3 := Lib.hid (HD2.out.still hT3)
  have HM3 := Lib.hid hM3
  have HT03 := Lib.hid hT03
  have HSZ : Hid (b < rx ∧ lb < rx ∧ mb < rx ∧ rx < w3.heap.size ∧ w.heap.size ≤ b ∧ w.heap.size ≤ lb ∧ w.heap.size ≤ mb ∧ w.heap.size ≤ rx) := Lib.hid (by have := hT2.size; omega)
  clear hM3 hT3 hs1 hs2 hs3 hrx hrl hN hT02 hT03 hT1 hT2
  go_wp2_with fail
  go_loopw [8] (fun iv wr => ∃ (i : Nat) (lv : Value), i ≤ 6 ∧ iv = .int .i64 (i : Nat) ∧ RowKit.Hid (DAt wr rx lv (.slice none 0 0) false (-1)) ∧ RowKit.Hid (Row wr 9 lv (secV i (List.replicate cd 0))) ∧ RowKit.Hid (DNew w3 lv) ∧ RowKit.Hid (Touch (fun j => rx ≤ j) w3 wr)) (fun iv _ => 6 - (RowKit.intOf iv).toNat)
  case atStart => exact ⟨0, .slice none 0 0, Nat.zero_le _, rfl, HM3.out, .inl ⟨rfl, rfl⟩, fun g h => by simp [Value.ownBlock] at h, Lib.hid (Touch.refl _ _)⟩
  case round =>
    obtain ⟨i, lv, hi6, rfl, HMi, HRi, HNi, HTi⟩ := hrel
    by_cases hlt : i < 6
    · have hltI : (i : Int) < 6 := by omega
      obtain ⟨av, cav, hlv, hcv, hcv2⟩ := HRi.out.form
      rw [secV_len] at hlv hcv
      unfold maxLen at hcv2
      subst hlv
      obtain ⟨c0, c1, c2, c3⟩ := HMi.out.cells
      go_upto_region 8 with fail
      go_region_law (first
        | (go_simp; go_at_call 6; refine (lsector_calls 0 _).mono ?_; rintro e wa ⟨rfl, hTa⟩; have hTA : Touch (fun _ => False) wr wa := (Touch.refl (fun _ => False) wr).drew.trans hTa; obtain ⟨c0, c1, c2, c3⟩ := (HMi.out.kept hTA id).cells; have x0 := ((Touch.refl (fun _ => False) wa).alloc (.cells #[.string (secB 0)] 9)).cell (p := ⟨rx, 0, none⟩) c0 id; have HTA := Lib.hid hTA; have hwz := hTA.size; clear hTa hTA)
        | (refine step_append_row _ (by rfl) _ _ _ _ (by rfl) 9 i0 _ 16 Try.underlying28 hi hz0 hz1 hz2 rfl (.slice av i cav) (secV i (List.replicate cd 0)) (by rfl) (by exact HRi.out.kept (S := fun _ => False) (HTA.out.alloc _) (fun _ _ => id)) (.slice (some ⟨wa.heap.size, 0, none⟩) 1 1) (by rfl) 1 [.string (secB 0)] (by exact Src.ofCell Try.underlying28 (heap_alloc_new wa _) rfl) (by rw [secV_len]; unfold maxLen; omega) (by rw [secV_len]; omega) ?_; intro v2 w4 hrow2 hgrow2 hown2; obtain ⟨a5, c5, hv5, hq5, hr5⟩ := hrow2.form; have hT4 : Touch (fun j => rx ≤ j) wr w4 := ((HTA.out.mono (fun _ e => e.elim)).trans (Touch.grown ((Touch.refl (fun j => rx ≤ j) wa).alloc _) hgrow2 (fun g hg => Or.inl (by have := HNi.out g hg; have := HSZ.out; omega)))); have hM4 := HMi.out.kept (S := fun j => w3.heap.size ≤ j) ((HTA.out.mono (fun _ e => e.elim)).trans (Touch.grown ((Touch.refl (fun j => w3.heap.size ≤ j) wa).alloc _) hgrow2 (fun g hg => Or.inl (HNi.out g hg)))) (by have := HSZ.out; omega); obtain ⟨c0, c1, c2, c3⟩ := hM4.cells; have f0 := Block.free hM4 0; rw [hv5] at hrow2 hown2 ⊢; rw [List.length_append, secV_len] at hrow2 hown2 ⊢))
      all_goals
        go_wp2_with fail
        go_roundw
        case rel =>
          have hT5 : Touch (fun j => j = rx) w4 (w4.setCell ⟨rx, 0, none⟩ (.slice a5 (i + 1) c5)) := (Touch.refl (fun j => j = rx) w4).setCell (p := ⟨rx, 0, none⟩) (Or.inl rfl) _
          have hnew : DNew w3 (.slice a5 (i + 1) c5) := fun g hg => by
            rcases hown2 with e | e
            · exact HNi.out g (e ▸ hg)
            · have e9 : some g = some _ := hg.symm.trans e
              injection e9 with e9
              have := HTi.out.size
              have := HTA.out.size
              first | omega | (rw [alloc_size] at e9; omega)
          have hr : Row w4 9 (.slice a5 (i + 1) c5) (secV (i + 1) (List.replicate cd 0)) := by
            rw [secV_snoc, ← HCD.out, sec_zero i (by omega), HCD.out]
            exact hrow2
          exact ⟨i + 1, _, by omega, by go_num, Lib.hid (Block.set hM4 0 _), Lib.hid (hr.kept hT5 (fun g hg e => by have := hnew g hg; have := HSZ.out; omega)), Lib.hid hnew, Lib.hid (HTi.out.trans (hT4.trans (hT5.mono fun j e => by omega)))⟩
        case measure => simp [RowKit.intOf]; omega
    · obtain rfl : i = 6 := by omega
      have hltI : ¬ (6 : Int) < 6 := by omega
      obtain ⟨av, cav, hlv, hcv, hcv2⟩ := HRi.out.form
      rw [secV_len] at hlv hcv
      unfold maxLen at hcv2
      subst hlv
      have HST : Hid (DiSt b lb mb cd rx 0 w wr) := Lib.hid ⟨_, [], 0, av, cav, .slice none 0 0, HD3.out.kept HTi.out (by have := HSZ.out; omega) (by have := HSZ.out; omega) (by have := HSZ.out; omega), Nat.le_refl _, ⟨HMi.out, HRi.out.reads, Ch.nil _, fun g hg => by
        have h1 := HNi.out g hg
        have h2 := HSZ.out
        exact ⟨by omega, fun e => by rcases e with e | e | e <;> omega⟩, fun g hg => by simp [Value.ownBlock] at hg, fun e => by have h2 := HSZ.out; rcases e with e | e | e <;> omega⟩, HT03.out.trans' HTi.out (fun j e => .inr (by have := HSZ.out; omega))⟩
      clear HMi HRi HNi HTi
      go_wp2_with fail
      go_loopw [9, 10, 11, 12, 13, 14] (fun iv _ _ _ _ _ wl => ∃ k : Nat, k ≤ l.length ∧ k ≤ 30 ∧ iv = .int .i64 (k : Nat) ∧ RowKit.Hid (DiSt b lb mb cd rx k w wl)) (fun iv _ _ _ _ _ _ => 30 - (RowKit.intOf iv).toNat)
      case atStart => exact ⟨0, Nat.zero_le _, by omega, rfl, HST⟩
      case round =>
        obtain ⟨k, hk1, hk2, rfl, HSTk⟩ := hrel
        obtain ⟨L, C, t, a2, k2, cv, hD, ht, hR, hT⟩ := HSTk.out
        by_cases hlk : k < l.length ∧ k < 30
        · obtain ⟨hlt, hlt2⟩ := hlk
          have hkl : (k : Int) < (l.length : Int) := by omega
          have hk30 : (k : Int) < 30 := by omega
          have hk0 : (0 : Int) ≤ (k : Int) := by omega
          obtain ⟨g, off, cp, hsl, _, p0, p1, p2, p3, p4⟩ := (HL.out.still hT).at' hlt
          obtain ⟨_, _, _, _, _, hx6, _⟩ := HL.out
          obtain ⟨x1, x2, x3, x4, x5, x6⟩ := hx6 l[k] (List.getElem_mem hlt)
          injection hsl with ha hlq hcap
          subst ha
          obtain ⟨afv, cfv, hfv, hfc1, hfc2⟩ := x4.form
          have HF := Lib.hid (⟨x4.still hT, x5, x6⟩ : _ ∧ _ ∧ _)
          rw [List.length_map] at hfv hfc1
          unfold maxLen at hfc2
          have hand : bits .and .i64 l[k].what 3 = l[k].what % 4 := i64_mask 2 (by omega) 3 (by decide) _
          generalize l[k].what = wh at *
          generalize l[k].pos = ps at *
          generalize l[k].byt = by' at *
          generalize l[k].n = xn at *
          generalize l[k].fs = fs at *
          generalize l[k].fv = fv at *
          subst hfv
          have HD := Lib.hid hD
          have HR := Lib.hid hR
          have HT := Lib.hid hT
          clear hD hR hT hx6 x4 x5 x6 x1 x3 hlq hcap
          go_upto_region 13 with fail
          have hX : XAt b lb mb wr.heap.size rx (wr.alloc (.cells #[.int .i64 wh, .int .i64 ps, .int .u8 (by'.toNat : Nat), .int .i64 xn, .slice afv fs.length cfv] 35)) wh ps by' xn afv fs.length cfv := ⟨Block.new _ _ _, by
            have h1 := HD.out.lt
            have h2 := Block.lt HR.out.box
            exact ⟨fun e => by rcases e with e | e | e <;> omega, by omega⟩⟩
          have hTm : Touch (fun _ => False) wr (wr.alloc (.cells #[.int .i64 wh, .int .i64 ps, .int .u8 (by'.toNat : Nat), .int .i64 xn, .slice afv fs.length cfv] 35)) := (Touch.refl _ _).alloc _
          have HFO : Hid (0 < fs.length → ∀ g, (Value.slice afv fs.length cfv).ownBlock = some g → ¬ DkS b lb mb g) := Lib.hid (fun h0 g hg e => by have := HF.out.2.2 h0 g hg; have := HNS.out g e; omega)
          generalize wr.alloc (.cells #[.int .i64 wh, .int .i64 ps, .int .u8 (by'.toNat : Nat), .int .i64 xn, .slice afv fs.length cfv] 35) = wm at hX hTm ⊢
          generalize wr.heap.size = xb at hX ⊢
          have HF4 := Lib.hid (HF.out.1.still hTm)
          obtain ⟨ac, qc, hcv, hqc1, hqc2⟩ := HR.out.cache.form
          unfold maxLen at hqc2
          subst hcv
          have HD4 := Lib.hid (HD.out.still hTm)
          have HR4 := Lib.hid (HR.out.still hTm)
          have HT4 := Lib.hid (HT.out.trans hTm)
          have HX := Lib.hid hX
          obtain ⟨b0, b1, b2, b3, b4⟩ := hX.cells
          have hCt := HD4.out.map.size_le
          have hlen := HD4.out.len
          have hnod := HD4.out.map.cached.1
          have hents : ∀ e ∈ C, e.k < 6 ∧ e.s.size = 64 := fun e he => ⟨(HD4.out.ents e he).1, (HD4.out.ents e he).2.1⟩
          have HP := Lib.hid (⟨hlen, hnod, hents⟩ : _ ∧ _ ∧ _)
          clear hX hTm hlen hnod hents p0 p1 p2 p3 p4
          go_upto_block 4 with fail
          go_cut [] from 53 to 94 (fun wx => DiSt b lb mb cd rx (k + 1) w wx)
          case first =>
            rcases (by omega : wh % 4 = 2 ∨ wh % 4 = 3 ∨ (¬ wh % 4 = 2 ∧ ¬ wh % 4 = 3)) with h | h | ⟨h, h'⟩
            · rw [h] at hand
              go_wp2_with fail
              refine (sync_ok HD4.out (by decide)).mono ?_
              rintro e wa ⟨rfl, L', ⟨hL1, hL2⟩, hDa, hTa⟩
              have hLs := sync_is HP.out.1 HP.out.2.1 HP.out.2.2 hL1 hL2
              subst hLs
              have hRa := HR4.out.disk hTa
              obtain ⟨c0, c1, c2, c3⟩ := hRa.box.cells
              have hbz := hDa.lt
              have hbr := Block.lt hRa.box
              have HRa := Lib.hid hRa
              have HDa := Lib.hid hDa
              have HTa := Lib.hid (HT4.out.trans' hTa (fun i hi => .inr (HNS.out i hi)))
              clear hRa hDa hTa hL1 hL2
              go_wp2_with fail
              refine (rsync_calls 6 _ _ L C wa HRa.out.lasts HRa.out.cache (by omega) HP.out.1 (by omega) HP.out.2.2).mono ?_
              rintro e wb ⟨a9, q9, rfl, hrow, hnw, hTb⟩
              have hMd := HRa.out.box.kept hTb id
              obtain ⟨c0, c1, c2, c3⟩ := hMd.cells
              have f0 := Block.free hMd 0
              have f1 := Block.free hMd 1
              have f2 := Block.free hMd 2
              have f3 := Block.free hMd 3
              have HMd := Lib.hid hMd
              have HROW := Lib.hid (⟨hrow, hnw, hTb⟩ : _ ∧ _ ∧ _)
              clear hMd hrow hnw hTb
              go_wp2_with fail
              go_meet
              exact ⟨_, [], t, a9, q9, .slice none 0 0, (HDa.out.still HROW.out.2.2).beside HR4.out.na (d_touch4 (w := wb) rx _ _ _ _), by omega, RAt.made HMd.out HROW.out.1.reads (Ch.nil _) (apart_new HROW.out.2.1 hbz hbr) (fun g hg => by simp [Value.ownBlock] at hg) HR4.out.na, (HTa.out.trans HROW.out.2.2).trans' (d_touch4 (w := wb) rx _ _ _ _) (fun j e => .inr (by have := HSZ.out; omega))⟩
            · rw [h] at hand
              go_wp2_with fail
              refine (crash_calls HD4.out _ fs HF4.out HFO.out HF.out.2.1).mono ?_
              rintro e wa ⟨rfl, hDa, hTa⟩
              have HDa := Lib.hid hDa
              clear hDa
              go_wp2_with fail
              refine (start_calls HDa.out).mono ?_
              rintro e wb ⟨rfl, hDb, hTb⟩
              have hTb' : Touch (DkS b lb mb) wa wb := hTb.mono (fun k hk => .inl hk)
              have hRb := (HR4.out.disk hTa).disk hTb'
              have hXb := (HX.out.disk hTa).disk hTb'
              have HFb := Lib.hid ((HF4.out.kept0 hTa (fun h0 g hg => HFO.out (by rw [List.length_map] at h0; exact h0) g hg)).kept0 hTb' (fun h0 g hg => HFO.out (by rw [List.length_map] at h0; exact h0) g hg))
              obtain ⟨c0, c1, c2, c3⟩ := hRb.box.cells
              obtain ⟨b0, b1, b2, b3, b4⟩ := hXb.cells
              have hbz := hDb.lt
              have hbr := Block.lt hRb.box
              have HRb := Lib.hid hRb
              have HDb := Lib.hid hDb
              have HTb := Lib.hid ((HT4.out.trans' hTa (fun i hi => .inr (HNS.out i hi))).trans' hTb' (fun i hi => .inr (HNS.out i hi)))
              clear hRb hXb hDb hTb hTb' hTa
              go_wp2_with fail
              refine (rcrash_calls 6 _ _ _ L C fs wb HRb.out.lasts HRb.out.cache HFb.out (by omega) HP.out.1 (by omega) HP.out.2.2 HF.out.2.1).mono ?_
              rintro e wc ⟨a9, q9, rfl, hrow, hnw, hTc⟩
              have hMd := HRb.out.box.kept hTc id
              obtain ⟨c0, c1, c2, c3⟩ := hMd.cells
              have f0 := Block.free hMd 0
              have f1 := Block.free hMd 1
              have f2 := Block.free hMd 2
              have f3 := Block.free hMd 3
              have HMd := Lib.hid hMd
              have HROW := Lib.hid (⟨hrow, hnw, hTc⟩ : _ ∧ _ ∧ _)
              clear hMd hrow hnw hTc
              go_wp2_with fail
              go_meet
              exact ⟨_, [], t, a9, q9, .slice none 0 0, (HDb.out.still HROW.out.2.2).beside HR4.out.na (touch5 (w := wc) rx _ _ _ _ _), by omega, RAt.made5 HMd.out HROW.out.1.reads (Ch.nil _) (apart_new HROW.out.2.1 hbz hbr) (fun g hg => by simp [Value.ownBlock] at hg) HR4.out.na, (HTb.out.trans HROW.out.2.2).trans' (touch5 (w := wc) rx _ _ _ _ _) (fun j e => .inr (by have := HSZ.out; omega))⟩
            · by_cases hps : 0 ≤ ps ∧ ps < 6
              · obtain ⟨i, rfl⟩ : ∃ i : Nat, ps = (i : Int) := ⟨ps.toNat, by omega⟩
                have hi6' : i < 6 := by omega
                go_upto_region 14 with fail
                go_cut [] from 56 to 94 (fun wx => DkAt wx b lb mb cd 6 L (putE C i (secB by') (t + 1)) (t + 1) (-1) true ∧ RAt b lb mb rx wx L C a2 k2 (.slice ac C.length qc) ∧ XAt b lb mb xb rx wx wh i by' xn afv fs.length cfv ∧ Touch (fun _ => False) w wx)
                case first =>
                  go_region_law (first
                    | (go_simp; go_at_call 6; refine (lsector_calls by' _).mono ?_; rintro e wa ⟨rfl, hTa⟩; have hTA : Touch (fun _ => False) wm wa := (Touch.refl (fun _ => False) wm).drew.trans hTa; obtain ⟨b0, b1, b2, b3, b4⟩ := (HX.out.kept hTA).cells; have HTA := Lib.hid hTA; clear hTa hTA)
                    | (go_simp; go_at_call 12; refine (write_ok (HD4.out.still HTA.out) i (secB by') (secB_size by') hi6' (by omega) (by omega)).mono ?_; rintro e wb ⟨rfl, hDb, hTb⟩))
                  all_goals
                    go_wp2_with fail
                    go_meet
                    exact ⟨by rw [burn_none] at hDb; exact hDb, (HR4.out.still HTA.out).disk hTb, (HX.out.kept HTA.out).disk hTb, (HT4.out.trans HTA.out).trans' hTb (fun i hi => .inr (HNS.out i hi))⟩
                case rest =>
                  obtain ⟨hDb, hRb, hXb, hTw⟩ := hcut
                  have HDb := Lib.hid hDb
                  have HRb := Lib.hid hRb
                  have HXb := Lib.hid hXb
                  have HTw := Lib.hid hTw
                  have hbz := hDb.lt
                  have hbr := Block.lt hRb.box
                  obtain ⟨b0, b1, b2, b3, b4⟩ := hXb.cells
                  obtain ⟨c0, c1, c2, c3⟩ := hRb.box.cells
                  clear hRb hXb hTw hDb
                  go_upto_region 15 with fail
                  go_region_law (first
                    | (go_simp; go_at_call 6; refine (lsector_calls by' _).mono ?_; rintro e we ⟨rfl, hTc⟩; have hTC : Touch (fun _ => False) wc we := (Touch.refl (fun _ => False) wc).drew.trans hTc; obtain ⟨b0, b1, b2, b3, b4⟩ := (HXb.out.kept hTC).cells; obtain ⟨c0, c1, c2, c3⟩ := (HRb.out.still hTC).box.cells; have HTC := Lib.hid hTC; clear hTc hTC)
                    | (go_simp; go_at_call 13; refine (rwrite_calls 6 a2 k2 _ C we ((HRb.out.still HTC.out).cache) (by omega) i hi6' (secB by') (secB_size by') (t + 1)).mono ?_; rintro e wd ⟨cv9, rfl, hch, hnw, hTd⟩; obtain ⟨a9, q9, hv9, hq9, hr9⟩ := hch.form; subst hv9; unfold maxLen at hr9; have hMd := (HRb.out.still HTC.out).box.kept hTd id; obtain ⟨c0, c1, c2, c3⟩ := hMd.cells; have f0 := Block.free hMd 0; have f1 := Block.free hMd 1; have f2 := Block.free hMd 2; have f3 := Block.free hMd 3))
                  all_goals
                    go_wp2_with fail
                    go_meet
                    exact ⟨L, _, t + 1, a2, k2, _, ((HDb.out.still HTC.out).still hTd).beside HR4.out.na (d_touch4 (w := wd) rx _ _ _ _), by omega, RAt.made hMd (((HRb.out.still HTC.out).still hTd).lasts) hch HR4.out.la (apart_new hnw ⟨by have := HTC.out.size; omega, by have := HTC.out.size; omega, by have := HTC.out.size; omega⟩ (by have := HTC.out.size; omega)) HR4.out.na, ((HTw.out.trans HTC.out).trans hTd).trans' (d_touch4 (w := wd) rx _ _ _ _) (fun j e => .inr (by have := HSZ.out; omega))⟩
              · have hpb : ps < 0 ∨ 6 ≤ ps := by omega
                go_upto_region 14 with fail
                go_cut [] from 56 to 94 (fun wx => DkAt wx b lb mb cd 6 L C t (-1) true ∧ RAt b lb mb rx wx L C a2 k2 (.slice ac C.length qc) ∧ XAt b lb mb xb rx wx wh ps by' xn afv fs.length cfv ∧ Touch (fun _ => False) w wx)
                case first =>
                  go_region_law (first
                    | (go_simp; go_at_call 6; refine (lsector_calls by' _).mono ?_; rintro e wa ⟨rfl, hTa⟩; have hTA : Touch (fun _ => False) wm wa := (Touch.refl (fun _ => False) wm).drew.trans hTa; obtain ⟨b0, b1, b2, b3, b4⟩ := (HX.out.kept hTA).cells; have HTA := Lib.hid hTA; clear hTa hTA)
                    | (go_simp; go_at_call 12; refine (write_bad (HD4.out.still HTA.out) ps (secB by') (secB_size by') (by omega)).mono ?_; rintro e wb ⟨rfl, hTb⟩; subst hTb))
                  all_goals
                    go_wp2_with fail
                    go_meet
                    exact ⟨HD4.out.still HTA.out, HR4.out.still HTA.out, HX.out.kept HTA.out, HT4.out.trans HTA.out⟩
                case rest =>
                  obtain ⟨hDb, hRb, hXb, hTw⟩ := hcut
                  have HDb := Lib.hid hDb
                  have HRb := Lib.hid hRb
                  have HXb := Lib.hid hXb
                  have HTw := Lib.hid hTw
                  have hbz := hDb.lt
                  have hbr := Block.lt hRb.box
                  obtain ⟨b0, b1, b2, b3, b4⟩ := hXb.cells
                  obtain ⟨c0, c1, c2, c3⟩ := hRb.box.cells
                  clear hRb hXb hTw hDb
                  go_upto_region 15 with fail
                  go_region_law (first
                    | (go_simp; go_at_call 6; refine (lsector_calls by' _).mono ?_; rintro e we ⟨rfl, hTc⟩; have hTC : Touch (fun _ => False) wc we := (Touch.refl (fun _ => False) wc).drew.trans hTc; obtain ⟨b0, b1, b2, b3, b4⟩ := (HXb.out.kept hTC).cells; obtain ⟨c0, c1, c2, c3⟩ := (HRb.out.still hTC).box.cells; have HTC := Lib.hid hTC; clear hTc hTC)
                    | (go_simp; go_at_call 13; refine (rwrite_bad 6 a2 k2 ac C.length qc ps (secB by') (secB_size by') (by omega) we).mono ?_; rintro e wd ⟨rfl, hTd⟩; have hMd := (HRb.out.still HTC.out).box.kept hTd id; obtain ⟨c0, c1, c2, c3⟩ := hMd.cells; have f0 := Block.free hMd 0; have f1 := Block.free hMd 1; have f2 := Block.free hMd 2; have f3 := Block.free hMd 3))
                  all_goals
                    go_wp2_with fail
                    go_meet
                    exact ⟨L, C, t, a2, k2, _, ((HDb.out.still HTC.out).still hTd).beside HR4.out.na (d_touch4 (w := wd) rx _ _ _ _), by omega, RAt.made hMd (((HRb.out.still HTC.out).still hTd).lasts) (((HRb.out.still HTC.out).still hTd).cache) HR4.out.la HR4.out.ca HR4.out.na, ((HTw.out.trans HTC.out).trans hTd).trans' (d_touch4 (w := wd) rx _ _ _ _) (fun j e => .inr (by have := HSZ.out; omega))⟩
          case rest =>
            clear HD4 HR4 HT4 HD HR HT HX HF HF4 HFO HP HD2 HD3 HM3 b0 b1 b2 b3 b4
            obtain ⟨L, C, t, a2, k2, cv, hD, ht9, hR, hT⟩ := hcut
            have HTt := Lib.hid ht9
            clear ht9
            obtain ⟨ac, qc, hcv, hqc1, hqc2⟩ := hR.cache.form
            unfold maxLen at hqc2
            subst hcv
            obtain ⟨g2, off2, cp2, hs2, hs3, hs4, _, hcl⟩ := hR.lasts.addr (by rw [secV_len]; omega)
            unfold maxLen at hs4
            rw [secV_len] at hs2 hs3
            injection hs2 with e1 e2 e3
            subst e1
            obtain ⟨c0, c1, c2, c3⟩ := hR.box.cells
            have HCL := Lib.hid hcl
            have HD := Lib.hid hD
            have HR := Lib.hid hR
            have HT := Lib.hid hT
            clear hD hR hT hcl e2 e3
            go_wp2_with fail
            go_loopw [11, 12] (fun av iv wl => RowKit.Hid (wl = wc) ∧ ∃ (m : Nat) (S : ByteArray), m ≤ 6 ∧ iv = .int .i64 (m : Nat) ∧ av = .string S ∧ RowKit.Hid (S.data.toList = L.take (m * 64))) (fun _ iv _ => 6 - (RowKit.intOf iv).toNat)
            case atStart => exact ⟨by first | exact Lib.hid rfl | exact Lib.hid trivial, 0, ⟨#[]⟩, Nat.zero_le _, rfl, rfl, Lib.hid (by simp)⟩
            case round =>
              obtain ⟨hwl, m, S, hm6, rfl, rfl, HS⟩ := hrel
              obtain rfl := hwl.out
              clear hwl
              by_cases hlt : m < 6
              · have hltI : (m : Int) < 6 := by omega
                have q0 := HCL.out m _ (secV_get hlt)
                have hzS : S.size ≤ 384 := by rw [← ByteArray.size_data, ← Array.length_toList, HS.out, List.length_take]; have := HD.out.len; omega
                have hzT : (sec L m).length ≤ 64 := by unfold sec; simp; omega
                have hzz : ¬ 9223372036854775807 < S.size + (sec L m).length := by omega
                go_wp2_with fail
                go_roundw
                case rel =>
                  exact ⟨by first | exact Lib.hid rfl | exact Lib.hid trivial, m + 1, _, by omega, by go_num, rfl, Lib.hid (by rw [ByteArray.data_append, Array.toList_append, HS.out]; exact joined L m)⟩
                case measure => simp [RowKit.intOf]; omega
              · obtain rfl : m = 6 := by omega
                have hltI : ¬ (6 : Int) < 6 := by omega
                have hall : L.take (6 * 64) = L := List.take_of_length_le (by rw [HD.out.len]; exact Nat.le_refl _)
                have hS : S = ⟨L.toArray⟩ := ba_ext (by rw [HS.out, hall])
                subst hS
                go_wp2_with fail
                refine (dirty_calls HD.out).mono ?_
                rintro e wd ⟨dv, rfl, hdr, hdn, hTd⟩
                have HDd := Lib.hid (HD.out.still hTd)
                have HRd := Lib.hid (HR.out.still hTd)
                have HTd := Lib.hid (HT.out.trans hTd)
                obtain ⟨da, dc, hdv, hd1, hd2⟩ := hdr.form
                rw [natVs_length, List.length_map] at hdv hd1
                unfold maxLen at hd2
                subst hdv
                have HDR := Lib.hid hdr
                obtain ⟨c0, c1, c2, c3⟩ := HRd.out.box.cells
                clear hdr hdn hTd hall
                go_wp2_with fail
                refine (image_calls HDd.out).mono ?_
                rintro e we ⟨rfl, rfl⟩
                have hne : (L.toArray.toList == L.toArray.toList) = true := by simp
                go_wp2_with fail
                go_loopw [14] (fun iv wl => ∃ j : Nat, j ≤ C.length ∧ iv = .int .i64 (j : Nat) ∧ RowKit.Hid (Touch (fun _ => False) wd wl)) (fun iv _ => C.length - (RowKit.intOf iv).toNat)
                case atStart => exact ⟨0, Nat.zero_le _, rfl, Lib.hid (Touch.refl _ _)⟩
                case round =>
                  obtain ⟨j, hj1, rfl, HTj⟩ := hrel
                  have hRj := HRd.out.still HTj.out
                  obtain ⟨c0, c1, c2, c3⟩ := hRj.box.cells
                  by_cases hlt : j < C.length
                  · have hltI : (j : Int) < (C.length : Int) := by omega
                    obtain ⟨g5, o5, k5, hs5, _, hg5, hc5⟩ := (HDR.out.kept HTj.out (fun _ _ => id)).addr (by rw [natVs_length, List.length_map]; omega)
                    injection hs5 with e5 e6 e7
                    subst e5
                    have q0 := hc5 j (.int .i64 (C[j].k : Nat)) (by simp [natVs, hlt])
                    obtain ⟨g6, o6, k6, hs6, hg6, q1, _⟩ := hRj.cache.at' hlt
                    injection hs6 with e8 e9 e10
                    subst e8
                    clear hc5 e6 e7 e9 e10 hRj
                    generalize C[j].k = ek at q0 q1
                    go_wp2_with fail
                    go_quiet (fail)
                    go_wp2_with fail
                    go_roundw
                    case rel => exact ⟨j + 1, by omega, by go_num, Lib.hid (HTj.out.drewN _)⟩
                    case measure => simp [RowKit.intOf]; omega
                  · obtain rfl : j = C.length := by omega
                    have hltI : ¬ (C.length : Int) < (C.length : Int) := by omega
                    clear hRj
                    go_wp2_with fail
                    go_roundw
                    case rel => exact ⟨k + 1, by omega, by omega, by go_num, Lib.hid ⟨L, C, t, _, k2, _, HDd.out.still HTj.out, HTt.out, HRd.out.still HTj.out, HTd.out.trans HTj.out⟩⟩
                    case measure => simp [RowKit.intOf]; omega
        · go_upto_region 10 with fail
          go_cut [46] from 39 to 46 (fun v46 wx => v46 = .bool false ∧ RowKit.Hid (wx = wr))
          case first =>
            rcases (by omega : ¬ k < l.length ∨ (k < l.length ∧ k = 30)) with h | ⟨h, h2⟩
            · have hkl : ¬ (k : Int) < (l.length : Int) := by omega
              go_wp2_with fail
              go_meet
              exact ⟨rfl, by first | exact Lib.hid rfl | exact Lib.hid trivial⟩
            · have hkl : (k : Int) < (l.length : Int) := by omega
              have hk30 : ¬ (k : Int) < 30 := by omega
              clear h h2
              go_wp2_with fail
              go_meet
              exact ⟨rfl, by first | exact Lib.hid rfl | exact Lib.hid trivial⟩
          case rest =>
            obtain ⟨rfl, hwx⟩ := hcut
            obtain rfl := hwx.out
            clear hwx HD2 HD3 HM3
            obtain ⟨ac, qc, hcv, hqc1, hqc2⟩ := hR.cache.form
            unfold maxLen at hqc2
            subst hcv
            obtain ⟨S, hS⟩ : ∃ S : ByteArray, S = ⟨L.toArray⟩ := ⟨_, rfl⟩
            have hSL : S.data.toList = L := by rw [hS]
            have hSz : S.size = 384 := by rw [← ByteArray.size_data, ← Array.length_toList, hSL]; have := hD.len; omega
            obtain ⟨mi, hmi⟩ : ∃ mi, bits .and .i64 z 511 = mi := ⟨_, rfl⟩
            have hm0 : 0 ≤ mi ∧ mi < 512 := by rw [← hmi, i64_mask 9 (by omega) 511 (by decide)]; omega
            obtain ⟨n, hn, hn4⟩ : ∃ n : Nat, mi.tmod 384 = (n : Int) ∧ n < 384 := ⟨(mi % 384).toNat, by rw [Int.tmod_eq_emod_of_nonneg hm0.1]; omega, by omega⟩
            have hnI : (n : Int) ≤ 384 := by omega
            have hnI2 : (n : Int) < 384 := by omega
            have hload : ∀ W, Calls Try.prog 16 #[.string (S.extract 0 n)] W fun e w' => (∃ p, e = .returned (.tuple #[.pointer p, .int .i64 (if 0 < n ∧ n % 64 = 0 then 0 else 1)])) ∧ Touch (fun _ => False) W w' := by
              intro W
              have hsz : (S.extract 0 n).size = n := by rw [ByteArray.size_extract]; omega
              by_cases h : 0 < n ∧ n % 64 = 0
              · rw [if_pos h]
                refine (load_ok (n / 64) (by omega) (by omega) _ (by rw [hsz]; omega) W).mono ?_
                rintro e w' ⟨b', lb', mb', rfl, _, _, hT'⟩
                exact ⟨⟨_, rfl⟩, hT'⟩
              · rw [if_neg h]
                refine (load_bad _ W (by rw [hsz]; omega) (by rw [hsz]; omega)).mono ?_
                rintro e w' ⟨rfl, rfl⟩
                exact ⟨⟨_, rfl⟩, Touch.refl _ _⟩
            have HLOAD := Lib.hid hload
            have HS := Lib.hid (⟨hS, hSL⟩ : _ ∧ _)
            have HD := Lib.hid hD
            have HR := Lib.hid hR
            have HT := Lib.hid hT
            have HM0 := Lib.hid hm0
            clear hload hS hSL hD hR hT hm0 HSTk
            go_wp2_with fail
            refine (image_calls HD.out).mono ?_
            rintro e we ⟨rfl, rfl⟩
            rw [← HS.out.1]
            go_wp2_with fail
            refine (load_ok 6 (by omega) (by omega) S (by rw [hSz]) _).mono ?_
            rintro e wf ⟨b1, lb1, mb1, rfl, hD1, hF1, hTf⟩
            rw [HS.out.2] at hD1
            have hDd := HD.out.still hTf
            have hRd := HR.out.still hTf
            have HTf := Lib.hid (HT.out.trans hTf)
            have HAP : Hid (∀ i, DkS b lb mb i → ¬ (i = b1 ∨ i = lb1 ∨ i = mb1)) := Lib.hid (fun i hi e => by
              have := HD.out.lt
              rcases hi with h | h | h <;> rcases e with e | e | e <;> omega)
            have HD1 := Lib.hid hD1
            have HDd := Lib.hid hDd
            have HRd := Lib.hid hRd
            clear hD1 hF1 hTf hDd hRd
            go_wp2_with fail
            refine (HLOAD.out _).mono ?_
            rintro e wg ⟨⟨p9, rfl⟩, hTg⟩
            obtain ⟨z9, hz9⟩ : ∃ z9 : Int, z9 = (if 0 < n ∧ n % 64 = 0 then 0 else 1) := ⟨_, rfl⟩
            rw [← hz9]
            have HZ9 := Lib.hid hz9
            clear hz9
            have HD1g := Lib.hid (HD1.out.still hTg)
            have HDg := Lib.hid (HDd.out.still hTg)
            have HRg := Lib.hid (HRd.out.still hTg)
            have HTg := Lib.hid (HTf.out.trans hTg)
            clear hTg
            go_wp2_with fail
            refine (sync_ok HDg.out (by decide)).mono ?_
            rintro e wh ⟨rfl, L', ⟨hL1, hL2⟩, hDh, hTh⟩
            have hLC : C.length = 0 → L' = L := fun h0 => by
              have hC0 : C = [] := List.length_eq_zero_iff.1 h0
              subst hC0
              exact sync_is (C := []) HDg.out.len (by simp) (by simp) hL1 hL2
            have HD1h := Lib.hid (HD1g.out.kept hTh (fun e => HAP.out _ e (.inl rfl)) (fun e => HAP.out _ e (.inr (.inl rfl))) (fun e => HAP.out _ e (.inr (.inr rfl))))
            have HDh := Lib.hid hDh
            have hRh := HRg.out.disk hTh
            obtain ⟨c0, c1, c2, c3⟩ := hRh.box.cells
            have HTh := Lib.hid (HTg.out.trans' hTh (fun i hi => .inr (HNS.out i hi)))
            have HLC := Lib.hid hLC
            clear hL1 hL2 hDh hTh hRh hLC HDg HRg HD1g HDd HRd HD1 HTf HTg
            go_wp2_with fail
            refine (image_calls HD1h.out).mono ?_
            rintro e wi ⟨rfl, rfl⟩
            rw [← HS.out.1]
            go_wp2_with fail
            refine (on_calls HD1h.out).mono ?_
            rintro e wi ⟨rfl, rfl⟩
            have hCz : 0 ≤ C.length := Nat.zero_le _
            have hfin : ∀ wj, Touch (fun _ => False) wh wj → Touch (fun _ => False) w wj := fun wj hj => HTh.out.trans hj
            have HFIN := Lib.hid hfin
            clear hfin hCz
            rcases (by omega : n = 0 ∨ (0 < n ∧ n % 64 = 0) ∨ (0 < n ∧ ¬ n % 64 = 0)) with h | h | h
            · obtain rfl : z9 = 1 := by rw [HZ9.out]; exact if_neg (by omega)
              have hng : ¬ (0 : Int) < (n : Int) := by omega
              by_cases hC0 : 0 < C.length
              · have hCI : (0 : Int) < (C.length : Int) := by omega
                have hCe : ¬ C = [] := fun e => by rw [e] at hC0; simp at hC0
                clear h
                go_wp2_with fail
                refine (dirty_nil _).mono ?_
                rintro e wk ⟨rfl, hTk⟩
                go_wp2_with fail
                refine (image_nil _).mono ?_
                rintro e wl ⟨rfl, rfl⟩
                go_wp2_with fail
                go_ret
                exact ⟨rfl, HFIN.out _ hTk⟩
              · have hCI : ¬ (0 : Int) < (C.length : Int) := by omega
                have hC1 : C = [] := List.length_eq_zero_iff.1 (by omega)
                clear h hCI hC0
                subst hC1
                simp only [List.length_nil] at c1 hqc1
                go_wp2_with fail
                refine (samed_calls HD1h.out HDh.out).mono ?_
                rintro e wj ⟨rfl, q, rfl⟩
                have hb : (([] : List Ent).isEmpty && (([] : List Ent).isEmpty && (L == L'))) = true := by rw [HLC.out rfl]; simp
                rw [hb]
                go_wp2_with fail
                refine (dirty_nil _).mono ?_
                rintro e wk ⟨rfl, hTk⟩
                go_wp2_with fail
                refine (image_nil _).mono ?_
                rintro e wl ⟨rfl, rfl⟩
                go_wp2_with fail
                go_ret
                exact ⟨rfl, HFIN.out _ (((Touch.refl _ _).drewN q).trans hTk)⟩
            · obtain rfl : z9 = 0 := by rw [HZ9.out]; exact if_pos h
              have hng : (0 : Int) < (n : Int) := by omega
              have hnr : (n : Int).tmod 64 = 0 := by rw [Int.tmod_eq_emod_of_nonneg (by omega)]; omega
              have hnr2 : n % 64 = 0 := h.2
              by_cases hC0 : 0 < C.length
              · have hCI : (0 : Int) < (C.length : Int) := by omega
                have hCe : ¬ C = [] := fun e => by rw [e] at hC0; simp at hC0
                clear h
                go_wp2_with fail
                refine (dirty_nil _).mono ?_
                rintro e wk ⟨rfl, hTk⟩
                go_wp2_with fail
                refine (image_nil _).mono ?_
                rintro e wl ⟨rfl, rfl⟩
                go_wp2_with fail
                go_ret
                exact ⟨rfl, HFIN.out _ hTk⟩
              · have hCI : ¬ (0 : Int) < (C.length : Int) := by omega
                have hC1 : C = [] := List.length_eq_zero_iff.1 (by omega)
                clear h hCI hC0
                subst hC1
                simp only [List.length_nil] at c1 hqc1
                go_wp2_with fail
                refine (samed_calls HD1h.out HDh.out).mono ?_
                rintro e wj ⟨rfl, q, rfl⟩
                have hb : (([] : List Ent).isEmpty && (([] : List Ent).isEmpty && (L == L'))) = true := by rw [HLC.out rfl]; simp
                rw [hb]
                go_wp2_with fail
                refine (dirty_nil _).mono ?_
                rintro e wk ⟨rfl, hTk⟩
                go_wp2_with fail
                refine (image_nil _).mono ?_
                rintro e wl ⟨rfl, rfl⟩
                go_wp2_with fail
                go_ret
                exact ⟨rfl, HFIN.out _ (((Touch.refl _ _).drewN q).trans hTk)⟩
            · obtain rfl : z9 = 1 := by rw [HZ9.out]; exact if_neg (by omega)
              have hng : (0 : Int) < (n : Int) := by omega
              obtain ⟨ri, hnr⟩ : ∃ ri : Int, (n : Int).tmod 64 = ri := ⟨_, rfl⟩
              have hri : ¬ ri = 0 := by rw [← hnr, Int.tmod_eq_emod_of_nonneg (by omega)]; omega
              have hnr2 : ¬ n % 64 = 0 := h.2
              have hri2 : (ri == 0) = false := by simp [hri]
              by_cases hC0 : 0 < C.length
              · have hCI : (0 : Int) < (C.length : Int) := by omega
                have hCe : ¬ C = [] := fun e => by rw [e] at hC0; simp at hC0
                clear h
                go_wp2_with fail
                refine (dirty_nil _).mono ?_
                rintro e wk ⟨rfl, hTk⟩
                go_wp2_with fail
                refine (image_nil _).mono ?_
                rintro e wl ⟨rfl, rfl⟩
                go_wp2_with fail
                go_ret
                exact ⟨by first | rfl | simp [hri2], HFIN.out _ hTk⟩
              · have hCI : ¬ (0 : Int) < (C.length : Int) := by omega
                have hC1 : C = [] := List.length_eq_zero_iff.1 (by omega)
                clear h hCI hC0
                subst hC1
                simp only [List.length_nil] at c1 hqc1
                go_wp2_with fail
                refine (samed_calls HD1h.out HDh.out).mono ?_
                rintro e wj ⟨rfl, q, rfl⟩
                have hb : (([] : List Ent).isEmpty && (([] : List Ent).isEmpty && (L == L'))) = true := by rw [HLC.out rfl]; simp
                rw [hb]
                go_wp2_with fail
                refine (dirty_nil _).mono ?_
                rintro e wk ⟨rfl, hTk⟩
                go_wp2_with fail
                refine (image_nil _).mono ?_
                rintro e wl ⟨rfl, rfl⟩
                go_wp2_with fail
                go_ret
                exact ⟨by first | rfl | simp [hri2], HFIN.out _ (((Touch.refl _ _).drewN q).trans hTk)⟩
end Go.Proofs.Ytjjpknmjkhaahaa
