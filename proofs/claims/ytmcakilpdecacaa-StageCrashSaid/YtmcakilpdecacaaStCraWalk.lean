/- The statement StageCrash over the translated program. -/
import Derived.Test.YtmcakilpdecacaaStD
import Derived.Test.YtmcakilpdecacaaStC
import Derived.Deep.CutBlock
namespace Go.Proofs.Ytmcakilpdecacaa
open Go Go.RowKit Go.Maps
set_option maxRecDepth 100000

theorem st_and63 (n : Int) : bits .and .i64 n 63 = n % 64 := by
  have hk : (BitVec.ofInt 64 63).toNat = 2 ^ 6 - 1 := by decide
  have key : (BitVec.ofInt 64 n &&& BitVec.ofInt 64 63).toNat = (n % ((2 ^ 64 : Nat) : Int)).toNat % 2 ^ 6 := by
    rw [BitVec.toNat_and, BitVec.toNat_ofInt, hk, Nat.and_two_pow_sub_one_eq_mod]
  show IntKind.i64.wrap ((BitVec.ofInt 64 n &&& BitVec.ofInt 64 63).toNat : Nat) = n % 64
  rw [key, IntKind.wrap_i64]
  omega
theorem st_and1 (n : Int) : bits .and .i64 n 1 = n % 2 := by
  have hk : (BitVec.ofInt 64 1).toNat = 2 ^ 1 - 1 := by decide
  have key : (BitVec.ofInt 64 n &&& BitVec.ofInt 64 1).toNat = (n % ((2 ^ 64 : Nat) : Int)).toNat % 2 ^ 1 := by
    rw [BitVec.toNat_and, BitVec.toNat_ofInt, hk, Nat.and_two_pow_sub_one_eq_mod]
  show IntKind.i64.wrap ((BitVec.ofInt 64 n &&& BitVec.ofInt 64 1).toNat : Nat) = n % 2
  rw [key, IntKind.wrap_i64]
  omega

theorem Try.cellsStr : Try.prog.cellsOf 9 = 1 := by kernel_rfl
/-- The places of the bytes that are safe, and what stands there. -/
def DS (S : ByteArray) (p : Nat) : Prop := 64 ≤ p ∧ p < 64 + S.size
def gS (S : ByteArray) (p : Nat) : UInt8 := S.data.toList.getD (p - 64) 0
theorem DS.lt {S : ByteArray} (hS : S.size ≤ 896) : ∀ p, DS S p → p < 16 * 64 := fun p hp => by have := hp.2; omega
theorem safe_read {S : ByteArray} {L : List UInt8} {C : List Ent} (h : Keeps (DS S) (gS S) L C) : (⟨(imgL L C (1 * 64 + 0) S.size).toArray⟩ : ByteArray) = S := by
  apply ba_ext
  show imgL L C (1 * 64 + 0) S.size = S.data.toList
  have hh : Holds L C 64 S.data.toList := holds_of fun j hj => by
    rw [ba_len] at hj
    rw [h.img (p := 64 + j) ⟨by omega, by omega⟩]
    show S.data.toList.getD (64 + j - 64) 0 = _
    rw [Nat.add_sub_cancel_left]
  have h2 : imgL L C 64 S.data.toList.length = S.data.toList := hh
  rw [ba_len] at h2
  exact h2
theorem safe_start (L : List UInt8) (C : List Ent) : Keeps (DS ⟨#[]⟩) (gS ⟨#[]⟩) L C :=
  ⟨fun p hp => absurd hp.2 (by have := hp.1; show ¬ p < 64 + 0; omega), fun p hp => absurd hp.2 (by have := hp.1; show ¬ p < 64 + 0; omega)⟩
theorem safe_all {A : ByteArray} {L L' : List UInt8} {C : List Ent} (hA : A.size ≤ 896) (h : Holds L C (1 * 64) A.data.toList) (hs : ∀ k : Nat, k < 16 → sec L' k = (readS L C k).data.toList) : Keeps (DS A) (gS A) L' [] := by
  refine (Keeps.sync hs).sub (DS.lt hA) fun p hp => ?_
  obtain ⟨h1, h2⟩ := hp
  have := h.at' (j := p - 64) (by rw [ba_len]; omega)
  rw [show 1 * 64 + (p - 64) = p by omega] at this
  exact this
theorem holds_sync {n p : Nat} {L L' : List UInt8} {C : List Ent} {A : List UInt8} (h : Holds L C p A) (hs : ∀ k : Nat, k < n → sec L' k = (readS L C k).data.toList) (hn : p + A.length ≤ n * 64) : Holds L' [] p A := by
  refine h.congr fun j hj => ?_
  show (sec L' ((p + j) / 64)).toArray.toList.getD _ 0 = _
  rw [hs _ (by omega)]
  rfl
theorem head_size (x : ByteArray) (m : Nat) : (x.extract 0 (min x.size m)).size ≤ m := by rw [ByteArray.size_extract]; omega
theorem cat_size (A s : ByteArray) : (A ++ s).size = A.size + s.size := ByteArray.size_append
theorem cat_list (A s : ByteArray) : (A ++ s).data.toList = A.data.toList ++ s.data.toList := by rw [ByteArray.data_append, Array.toList_append]

set_option maxHeartbeats 4000000 in
theorem stcrash_calls (l : List ByteArray) (zf : Int) (fs : List Int) (v0 v1 : Value) (w : World) (hl : Reads w v0 (l.map Value.string)) (hsz : ∀ s ∈ l, s.size ≤ 9223372036854775807) (hf : Reads w v1 (fs.map (Value.int .i64))) (hfw : ∀ z ∈ fs, -9223372036854775808 ≤ z ∧ z ≤ 9223372036854775807) (hfo : 0 < fs.length → ∀ g, v1.ownBlock = some g → g < w.heap.size) :
    Calls Try.prog 5 #[v0, .int .i64 zf, v1] w fun e w' => e = .returned (.bool true) ∧ Touch (fun _ => False) w w' := by
  obtain ⟨a, cap, hv, hc1, hc2⟩ := hl.form
  rw [List.length_map] at hv hc1
  unfold maxLen at hc2
  have HL := Lib.hid hl
  have HF := Lib.hid hf
  have HFW := Lib.hid hfw
  have HFO := Lib.hid hfo
  have HSZ := Lib.hid hsz
  clear hl hf hfw hfo hsz
  subst hv
  obtain ⟨r, hr⟩ : ∃ r : Nat, zf % 64 = (r : Int) := ⟨(zf % 64).toNat, by omega⟩
  have hr64 : r < 64 := by omega
  have h63 : bits .and .i64 zf 63 = (r : Int) := by rw [st_and63, hr]
  clear hr
  go_enter Try.func5, Try.ntmps5
  go_wp2_with fail
  refine (speaks19_calls w).mono ?_
  rintro e w0 ⟨rfl, hT0⟩
  go_wp2_with fail
  refine (new_calls 16 w0 (by omega) (by omega)).mono ?_
  rintro e w1 ⟨b, lb, mb, rfl, hD1, hN, hT1⟩
  have HD1 := Lib.hid hD1
  have HNB := Lib.hid hN
  clear hD1 hN
  go_wp2_with fail
  refine (stnew_calls HD1.out 1 14 0 (by omega) (by omega) (by omega)).mono ?_
  rintro e w2 ⟨fb, rfl, hF2, hfb, hT2⟩
  have HF2 := Lib.hid hF2
  have HNN : Hid (∀ k, DkS b lb mb k ∨ k = fb → w.heap.size ≤ k) := Lib.hid (fun k hk => by
    have := HNB.out; have := hT0.size; have := hT1.size
    rcases hk with (h | h | h) | h <;> omega)
  have HSP : Hid (¬ DkS b lb mb fb) := Lib.hid (by have := HD1.out.lt; rintro (h | h | h) <;> omega)
  have HD2 := Lib.hid (HD1.out.still hT2)
  have HT2 := Lib.hid ((hT0.trans hT1).trans hT2)
  clear hF2 hT0 hT1 hT2 hfb
  go_wp2_with fail
  refine (fuse_calls HD2.out (r : Int) (by omega)).mono ?_
  rintro e w3 ⟨rfl, hD3, hT3⟩
  rw [show max (r : Int) (-1) = (r : Int) by omega] at hD3
  have HD3 := Lib.hid hD3
  have HF3 := Lib.hid (HF2.out.kept hT3 (fun h => HSP.out (h ▸ .inl rfl)))
  have HT3 : Hid (Touch (fun _ => False) w w3) := Lib.hid (HT2.out.trans' hT3 (fun i hi => .inr (HNN.out i (.inl (.inl hi)))))
  clear hD3 hT3
  go_upto_block 0 with fail
  go_cut [11, 12, 13] (fun v11 _ _ wx => ∃ (S : ByteArray) (L : List UInt8) (C : List Ent) (t : Nat) (f : Int) (on : Bool), v11 = .string S ∧ S.size ≤ 896 ∧ DkAt wx b lb mb (16 * 64) 16 L C t f on ∧ Keeps (DS S) (gS S) L C ∧ Touch (fun _ => False) w wx)
  case first =>
    go_wp2_with fail
    go_loopw [11, 12, 13] (fun v11 v12 v13 wr => ∃ (j : Nat) (S A : ByteArray) (L : List UInt8) (C : List Ent) (t : Nat) (f : Int), v11 = .string S ∧ v12 = .string A ∧ v13 = .int .i64 j ∧ j ≤ 20 ∧ j ≤ l.length ∧ t ≤ 100 * j ∧ A.size ≤ 896 ∧ S.size ≤ A.size ∧ DkAt wr b lb mb (16 * 64) 16 L C t f true ∧ FlAt wr fb b 1 (14 * 64) A.size ∧ Holds L C (1 * 64) A.data.toList ∧ Keeps (DS S) (gS S) L C ∧ Touch (fun _ => False) w wr) (fun _ _ i _ => l.length - (Go.RowKit.intOf i).toNat)
    case atStart => exact ⟨0, ⟨#[]⟩, ⟨#[]⟩, _, _, _, _, rfl, rfl, rfl, by omega, by omega, by omega, by decide, by decide, HD3.out, HF3.out, holds_nil _ _ _, safe_start _ _, HT3.out⟩
    case round =>
      obtain ⟨j, S, A, L, C, t, f, rfl, rfl, rfl, hj20, hjl, ht, hA, hSA, hD, hFl, hH, hK, hT⟩ := hrel
      have HD := Lib.hid hD
      have HFl := Lib.hid hFl
      have HH := Lib.hid hH
      have HK := Lib.hid hK
      have HT := Lib.hid hT
      clear hD hFl hH hK hT
      by_cases hlt : j < l.length ∧ j < 20
      · obtain ⟨hlt, hlt20⟩ := hlt
        have hI1 : (j : Int) < (l.length : Int) := by omega
        have hI2 : (j : Int) < 20 := by omega
        go_upto_region 10 with fail
        obtain ⟨x, hx⟩ : ∃ x, l[j]? = some x := ⟨_, List.getElem?_eq_getElem (by omega)⟩
        obtain ⟨g, off, cap', hga, _, _, _, hcell⟩ := (HL.out.still HT.out).addr (by rw [List.length_map]; omega)
        injection hga with hga hq1 hq2
        clear hq1 hq2
        subst hga
        have hxs : x.size ≤ 9223372036854775807 := HSZ.out x (List.mem_of_getElem? hx)
        have p0 : wr.cell? ⟨g, off + j, none⟩ = some (.string x) := hcell j _ (by rw [List.getElem?_map, hx]; rfl)
        obtain ⟨k, hk⟩ : ∃ k, k = min x.size 100 := ⟨_, rfl⟩
        obtain ⟨s, hs⟩ : ∃ s, x.extract 0 k = s := ⟨_, rfl⟩
        have hs100 : s.size ≤ 100 := by rw [← hs, hk]; exact head_size x 100
        have hk1 : min (x.size : Int) 100 = (k : Int) := by omega
        have hk3 : (if (100 : Int) < (x.size : Int) then (100 : Int) else (x.size : Int)) = (k : Int) := by split <;> omega
        have hk2 : (k : Int) ≤ (x.size : Int) := by omega
        have hk0 : (0 : Int) ≤ (k : Int) := by omega
        clear hk hcell hx
        go_quiet (fail)
        clear hk1 hk2 hk3 hk0 hs p0 hxs
        go_wp2_with fail
        have hq := (Touch.refl (fun _ => False) wr).drewN
        by_cases hroom : 896 - A.size < s.size
        · refine (stappend_full (HFl.out.kept (hq _) id) (by omega) hA s hroom).mono ?_
          rintro e wb ⟨rfl, hTb⟩
          have HTb := Lib.hid ((hq _).trans hTb)
          clear hTb hq
          go_wp2_with fail
          go_meet
          exact ⟨S, L, C, t, f, true, rfl, by omega, HD.out.still HTb.out, HK.out, HT.out.trans HTb.out⟩
        · refine (stappend_calls (HD.out.still (hq _)) (HFl.out.kept (hq _) id) HSP.out (by omega) hA s (by omega) (by omega)).mono ?_
          rintro e wb ⟨hout, hTb⟩
          have HTb : Hid (Touch (fun _ => False) w wb) := Lib.hid ((HT.out.drewN _).trans' hTb (fun i hi => .inr (HNN.out i hi)))
          clear hTb hq
          rcases hout with ⟨rfl, C2, t2, f2, hff, ht2, hDb, hFb, hIb, hKb⟩ | ⟨hfb, rfl, t2, ht2, hDb, hFb⟩
          · have HDb := Lib.hid hDb
            have HFb := Lib.hid hFb
            have HHb : Hid (Holds L C2 (1 * 64) (A ++ s).data.toList) := Lib.hid (by
              rw [cat_list]; exact HH.out.app (by rw [ba_len] ; exact hIb))
            have HKb : Hid (Keeps (DS S) (gS S) L C2) := Lib.hid (hKb _ _ (fun p hp hh => by have := hp.2; omega) HK.out)
            have hcs := cat_size A s
            have hbig : (9223372036854775807 < A.size + s.size) = False := eq_false (by omega)
            clear hDb hFb hIb hKb hff
            obtain ⟨A2, hA2⟩ : ∃ A2, A ++ s = A2 := ⟨_, rfl⟩
            rw [hA2] at HHb hcs
            have HA2 := Lib.hid hA2
            have h1 : bits .and .i64 (j : Int) 1 = (j : Int) % 2 := st_and1 _
            by_cases hpar : j % 2 = 1
            · have hp1 : bits .and .i64 (j : Int) 1 = 1 := by rw [h1]; omega
              clear h1
              by_cases hf0 : f2 = 0
              · subst hf0
                go_wp2_with (go_at_call 31; refine (stsync_any HFb.out (Q := fun w' => DkAt w' b lb mb (16 * 64) 16 L [] t2 (-1) false ∧ Touch (DkS b lb mb) wb w') (sync_burn HDb.out)).mono ?_; rintro e wc ⟨rfl, hDc, hTc⟩; have HDc := Lib.hid hDc; have HTc := Lib.hid hTc; clear hDc hTc)
                go_meet
                exact ⟨S, L, [], t2, -1, false, rfl, by omega, HDc.out, HKb.out.burn, HTb.out.trans' HTc.out (fun i hi => .inr (HNN.out i (.inl hi)))⟩
              · go_wp2_with (go_at_call 31; refine (stsync_any HFb.out (Q := fun w' => ∃ L', (L'.length = 16 * 64 ∧ ∀ k : Nat, k < 16 → sec L' k = (readS L C2 k).data.toList) ∧ DkAt w' b lb mb (16 * 64) 16 L' [] t2 f2 true ∧ Touch (DkS b lb mb) wb w') (sync_ok HDb.out hf0)).mono ?_; rintro e wc ⟨rfl, L3, ⟨hL3, hL4⟩, hDc, hTc⟩; have HDc := Lib.hid hDc; have HTc := Lib.hid hTc; have HL4 := Lib.hid hL4; clear hDc hTc hL4)
                go_roundw
                case rel => exact ⟨j + 1, A2, A2, L3, [], t2, f2, rfl, rfl, by go_num, by omega, by omega, by omega, by omega, by omega, HDc.out, by rw [hcs]; exact HFb.out.kept HTc.out HSP.out, holds_sync HHb.out HL4.out (by rw [ba_len]; omega), safe_all (by omega) HHb.out HL4.out, HTb.out.trans' HTc.out (fun i hi => .inr (HNN.out i (.inl hi)))⟩
                case measure => simp [Go.RowKit.intOf]; omega
            · have hp1 : bits .and .i64 (j : Int) 1 = 0 := by rw [h1]; omega
              clear h1
              go_wp2_with fail
              go_roundw
              case rel => exact ⟨j + 1, S, A2, L, C2, t2, f2, rfl, rfl, by go_num, by omega, by omega, by omega, by omega, by omega, HDb.out, by rw [hcs]; exact HFb.out, HHb.out, HKb.out, HTb.out⟩
              case measure => simp [Go.RowKit.intOf]; omega
          · have HDb := Lib.hid hDb
            have HFb := Lib.hid hFb
            clear hDb hFb
            go_wp2_with (go_at_call 33; refine (stlen_calls HFb.out).mono ?_; rintro e w' ⟨rfl, rfl⟩)
            go_meet
            exact ⟨S, L, [], t2, -1, false, rfl, by omega, HDb.out, HK.out.burn, HTb.out⟩
      · have hcase : ¬ ((j : Int) < (l.length : Int)) ∨ ((j : Int) < (l.length : Int) ∧ ¬ ((j : Int) < 20)) := by omega
        rcases hcase with hA' | ⟨hA', hA2⟩
        all_goals
          go_wp2_with fail
          go_meet
          exact ⟨S, L, C, t, f, true, rfl, by omega, HD.out, HK.out, HT.out⟩
  case rest =>
    obtain ⟨S, L, C, t, f, on, rfl, hS, hDc, hKc, hTc⟩ := hcut
    have hFe : Reads wc v1 (fs.map (Value.int .i64)) := HF.out.still hTc
    have hFs : 0 < fs.length → ∀ g, v1.ownBlock = some g → ¬ DkS b lb mb g := fun h0 g hg hd => by have := HFO.out h0 g hg; have := HNN.out g (.inl hd); omega
    have hcr : Calls Try.prog 16 #[.pointer (some ⟨b, 0, none⟩), v1] wc fun e w' => e = .returned (.tuple #[]) ∧ ∃ L' C' f', DkAt w' b lb mb (16 * 64) 16 L' C' t f' false ∧ Keeps (DS S) (gS S) L' C' ∧ Touch (DkS b lb mb) wc w' := by
      cases on with
      | true =>
        refine (crash_calls hDc v1 fs hFe hFs HFW.out).mono ?_
        rintro e w' ⟨rfl, h1, h2⟩
        exact ⟨rfl, _, [], _, h1, Keeps.crash (DS.lt hS) C fs L hKc hDc.len (fun e he => ⟨(hDc.ents e he).1, (hDc.ents e he).2.1⟩), h2⟩
      | false =>
        refine (crash_off hDc v1).mono ?_
        rintro e w' ⟨rfl, rfl⟩
        exact ⟨rfl, _, _, _, hDc, hKc, Touch.refl _ _⟩
    have HTc := Lib.hid hTc
    clear hFe hFs hDc hKc hTc
    go_wp2_with fail
    refine hcr.mono ?_
    rintro e wf ⟨rfl, L', C', f', hDf, hKf, hTf⟩
    have HDf := Lib.hid hDf
    have HKf := Lib.hid hKf
    have HTF : Hid (Touch (fun _ => False) w wf) := Lib.hid (HTc.out.trans' hTf (fun i hi => .inr (HNN.out i (.inl hi))))
    clear hDf hKf hTf hcr
    go_wp2_with fail
    refine (start_calls HDf.out).mono ?_
    rintro e wg ⟨rfl, hDg, hTg⟩
    have HDg := Lib.hid hDg
    have HTG : Hid (Touch (fun _ => False) w wg) := Lib.hid (HTF.out.trans' hTg (fun i hi => .inr (HNN.out i (.inl (.inl hi)))))
    clear hDg hTg
    go_wp2_with fail
    refine (stnew_calls HDg.out 1 14 S.size (by omega) (by omega) (by omega)).mono ?_
    rintro e wh ⟨fb2, rfl, hFh, _, hTh⟩
    have HFh := Lib.hid hFh
    have HDh := Lib.hid (HDg.out.still hTh)
    have HTH := Lib.hid (HTG.out.trans hTh)
    clear hFh hTh
    go_wp2_with fail
    have hrd := stread_calls HDh.out HFh.out (by omega) (by omega) 0 S.size (by omega)
    rw [safe_read HKf.out] at hrd
    refine hrd.mono ?_
    rintro e wi ⟨rfl, hTi⟩
    have HTI := Lib.hid (HTH.out.trans hTi)
    clear hTi hrd
    go_wp2_with fail
    go_ret
    exact ⟨rfl, HTI.out⟩

end Go.Proofs.Ytmcakilpdecacaa
