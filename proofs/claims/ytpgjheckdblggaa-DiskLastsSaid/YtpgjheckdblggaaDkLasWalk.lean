/- The statement DiskLasts over the translated program. -/
import Derived.Test.YtpgjheckdblggaaDkL
import Derived.Deep.CutBlock
namespace Go.Proofs.Ytpgjheckdblggaa
open Go Go.RowKit Go.Maps
set_option maxRecDepth 100000

/-- What a sector is behind a crash. -/
theorem crash_sec {n : Nat} {k : Nat} (hk : k < n) : ∀ (C : List Ent) (fs : List Int) (L : List UInt8), L.length = n * 64 → (C.map Ent.k).Nodup → (∀ e ∈ C, e.k < n ∧ e.s.size = 64) →
    sec (crashL L C fs) k = sec L k ∨ ∃ e ∈ C, e.k = k ∧ ∃ z, sec (crashL L C fs) k = fateT (sec L k) e.s.data.toList z
  | [], fs, L, _, _, _ => .inl (by simp [crashL])
  | e :: r, [], L, _, _, _ => .inl (by simp [crashL])
  | e :: r, f :: fr, L, hL, hn, hc => by
    have hn1 := List.nodup_cons.1 (by simpa using hn : (e.k :: r.map Ent.k).Nodup)
    obtain ⟨he1, he2⟩ := hc e List.mem_cons_self
    have hsl : e.s.data.toList.length = 64 := by rw [Array.length_toList]; exact he2
    have hfl := fateT_len (sec_len hL he1) hsl f
    have e1 : crashL L (e :: r) (f :: fr) = crashL (setS L e.k (fateT (sec L e.k) e.s.data.toList f)) r fr := by simp [crashL]
    rw [e1]
    have ih := crash_sec hk r fr (setS L e.k (fateT (sec L e.k) e.s.data.toList f)) (setS_len hL he1 hfl) hn1.2 (fun e' h' => hc e' (List.mem_cons_of_mem _ h'))
    by_cases hek : k = e.k
    · subst hek
      have hno : ∀ e' ∈ r, e'.k ≠ e.k := fun e' h' he => hn1.1 (by rw [← he]; exact List.mem_map.2 ⟨e', h', rfl⟩)
      rcases ih with ih | ⟨e', h', hk', _⟩
      · right
        exact ⟨e, List.mem_cons_self, rfl, f, by rw [ih, sec_set_same hL hk hfl]⟩
      · exact absurd hk' (hno e' h')
    · have h2 : sec (setS L e.k (fateT (sec L e.k) e.s.data.toList f)) k = sec L k := sec_set_other hL he1 hk hek hfl
      rw [h2] at ih
      rcases ih with ih | ⟨e', h', hk', z, hz⟩
      · exact .inl ih
      · exact .inr ⟨e', List.mem_cons_of_mem _ h', hk', z, hz⟩

/-- A string of its two halves. -/
theorem half_cat (A B : ByteArray) (_hA : A.size = 64) (hB : B.size = 64) : (A.extract 0 32 ++ B.extract 32 64).data.toList = A.data.toList.take 32 ++ B.data.toList.drop 32 := by
  have hBl : B.data.toList.length = 64 := by rw [Array.length_toList]; exact hB
  rw [ByteArray.data_append, ByteArray.data_extract, ByteArray.data_extract, Array.toList_append, Array.toList_extract, Array.toList_extract]
  simp [List.extract]
  exact List.take_of_length_le (by rw [List.length_drop]; omega)

theorem str_ne {a b : ByteArray} (h : a ≠ b) : (a.toList == b.toList) = false := by
  rw [beq_eq_false_iff_ne]
  intro he
  rw [ByteArray.toList_eq, ByteArray.toList_eq] at he
  exact h (ba_ext he)

/-- What is read behind the crash, of four. -/
theorem four {L : List UInt8} {C : List Ent} (hL : L.length = 8 * 64) (hn : (C.map Ent.k).Nodup) (hc : ∀ e ∈ C, e.k < 8 ∧ e.s.size = 64) (fs : List Int) {k : Nat} (hk : k < 8) :
    (readS (crashL L C fs) [] k = readS L [] k ∨ readS (crashL L C fs) [] k = readS L C k ∨ readS (crashL L C fs) [] k = (readS L [] k).extract 0 32 ++ (readS L C k).extract 32 64 ∨ readS (crashL L C fs) [] k = (readS L C k).extract 0 32 ++ (readS L [] k).extract 32 64) ∧ (readS L [] k).size = 64 ∧ (readS L C k).size = 64 := by
  have hA : (readS L [] k).size = 64 := by show (sec L k).toArray.size = 64; simp [sec_len hL hk]
  have hB : (readS L C k).size = 64 := by
    unfold readS
    cases hf : findE C k with
    | some e => exact (hc e (find_mem hf).1).2
    | none => exact hA
  refine ⟨?_, hA, hB⟩
  rcases crash_sec hk C fs L hL hn hc with h | ⟨e, he, hek, z, hz⟩
  · exact .inl (ba_ext (by rw [readS_list, readS_list, h]))
  · subst hek
    have hBe : readS L C e.k = e.s := readS_mem hn he
    have hAl : (readS L [] e.k).data.toList = sec L e.k := rfl
    by_cases h0 : z % 4 = 0
    · exact .inl (ba_ext (by rw [readS_list, readS_list, hz]; unfold fateT; rw [if_pos h0]))
    · by_cases h1 : z % 4 = 1
      · exact .inr (.inl (ba_ext (by rw [readS_list, hz, hBe]; unfold fateT; rw [if_neg h0, if_pos h1])))
      · by_cases h2 : z % 4 = 2
        · exact .inr (.inr (.inr (ba_ext (by rw [readS_list, half_cat _ _ hB hA, hz, hBe, hAl]; unfold fateT; rw [if_neg h0, if_neg h1, if_pos h2]))))
        · exact .inr (.inr (.inl (ba_ext (by rw [readS_list, half_cat _ _ hA hB, hz, hBe, hAl]; unfold fateT; rw [if_neg h0, if_neg h1, if_neg h2]))))

set_option maxHeartbeats 4000000 in
theorem dlasts_calls (l m : List DAct) (fs : List Int) (v0 v1 v2 : Value) (w : World) (hl : DActs w v0 l) (hm : DActs w v1 m) (hf : Reads w v2 (fs.map (Value.int .i64))) (hfw : ∀ z ∈ fs, -9223372036854775808 ≤ z ∧ z ≤ 9223372036854775807) (hfo : 0 < fs.length → ∀ g, v2.ownBlock = some g → g < w.heap.size) :
    Calls Try.prog 3 #[v0, v1, v2] w fun e w' => e = .returned (.bool true) ∧ Touch (fun _ => False) w w' := by
  obtain ⟨a, cap, hv, hc1, hc2⟩ := hl.form
  obtain ⟨a1, cap1, hv1, hc3, hc4⟩ := hm.form
  unfold maxLen at hc2 hc4
  have HL := Lib.hid hl
  have HM := Lib.hid hm
  have HF := Lib.hid (⟨hf, hfw, hfo⟩ : _ ∧ _ ∧ _)
  clear hl hm hf hfw hfo
  subst hv hv1
  go_enter Try.func3, Try.ntmps3
  go_wp2_with fail
  refine (speaks17_calls w).mono ?_
  rintro e w1 ⟨rfl, hT1⟩
  go_wp2_with fail
  refine (new_calls 8 w1 (by omega) (by omega)).mono ?_
  rintro e w2 ⟨b, lb, mb, rfl, hD2, hN, hT2⟩
  have HD2 := Lib.hid hD2
  have hT02 := hT1.trans hT2
  have hs1 := hT1.size
  have HNS : Hid (∀ i, DkS b lb mb i → w.heap.size ≤ i) := Lib.hid (fun i hi => by rcases hi with h | h | h <;> omega)
  generalize hL0 : List.replicate (8 * 64) (0 : UInt8) = L0 at HD2
  clear hD2 hL0
  generalize (8 * 64 : Nat) = cd at HD2
  go_upto_block 0 with fail
  go_cut [9] (fun _ wx => ∃ C k, k ≤ 20 ∧ DkAt wx b lb mb cd 8 L0 C k (-1) true ∧ Touch (fun _ => False) w wx)
  case first =>
    go_wp2_with fail
    go_loopw [9] (fun i wr => ∃ k : Nat, i = .int .i64 k ∧ k ≤ l.length ∧ k ≤ 20 ∧ ∃ C, DkAt wr b lb mb cd 8 L0 C k (-1) true ∧ Touch (fun _ => False) w wr) (fun i _ => 20 - (intOf i).toNat)
    case atStart => exact ⟨0, rfl, Nat.zero_le _, by omega, [], HD2.out, hT02⟩
    case round =>
      obtain ⟨k, rfl, hk1, hk2, C, hD, hT⟩ := hrel
      by_cases hlt : k < l.length ∧ k < 20
      · obtain ⟨hlt, hlt2⟩ := hlt
        have hkl : (k : Int) < (l.length : Int) := by omega
        have hk20 : (k : Int) < 20 := by omega
        have hk0 : (0 : Int) ≤ (k : Int) := by omega
        obtain ⟨g, off, cp, hsl, _, p0, p1, p2, p3, p4⟩ := (HL.out.still hT).at' hlt
        injection hsl with ha hlq hcap
        subst ha
        obtain ⟨i, hi⟩ : ∃ i : Nat, l[k].pos % 8 = (i : Int) := ⟨(l[k].pos % 8).toNat, by omega⟩
        have hi8 : i < 8 := by omega
        have h7 : bits .and .i64 l[k].pos 7 = (i : Int) := by rw [i64_and7, hi]
        generalize l[k].pos = zp at p1 hi h7
        generalize hby : l[k].byt = by' at p2
        have HD := Lib.hid hD
        clear hlq hcap hby hD p0 p3 p4 hi
        have HP : Hid (wr.cell? ⟨g, off + k * 5 + 1, none⟩ = some (.int .i64 zp) ∧ wr.cell? ⟨g, off + k * 5 + 2, none⟩ = some (.int .u8 (by'.toNat : Nat))) := Lib.hid ⟨p1, p2⟩
        go_upto_region 7 with fail
        go_region_law (first
          | (go_simp; go_at_call 14; refine (lsector_calls by' _).mono ?_; rintro e wa ⟨rfl, hTa⟩; have a1 := hTa.cell (p := ⟨g, off + k * 5 + 1, none⟩) HP.out.1 id; have a2 := hTa.cell (p := ⟨g, off + k * 5 + 2, none⟩) HP.out.2 id; have HTA : Hid (Touch (fun _ => False) wr wa) := Lib.hid ((Touch.refl (fun _ => False) wr).drew.trans hTa))
          | (go_simp; go_at_call 13; refine (write_ok (HD.out.still HTA.out) i (secB by') (secB_size by') hi8 (by omega) (by omega)).mono ?_; rintro e wb ⟨rfl, hDb, hTb⟩))
        all_goals
          rw [burn_none] at hDb
          go_wp2_with fail
          go_roundw
          case rel => exact ⟨k + 1, by go_num, by omega, by omega, _, hDb, (hT.trans HTA.out).trans' hTb (fun i hi => .inr (HNS.out i hi))⟩
          case measure => simp [intOf]; omega
      · by_cases hlen : k < l.length
        · obtain rfl : k = 20 := by omega
          have hlI : (20 : Int) < (l.length : Int) := by omega
          have HD := Lib.hid hD
          clear hD hlt
          go_wp2_with fail
          go_meet
          exact ⟨C, 20, by omega, HD.out, hT⟩
        · have hlI : decide (k < l.length) = false := decide_eq_false hlen
          have HD := Lib.hid hD
          clear hD hlt
          go_wp2_with fail
          go_meet
          exact ⟨C, k, hk2, HD.out, hT⟩
  case rest =>
    obtain ⟨C0, k0, hk0, hD3, hT3⟩ := hcut
    have HD3 := Lib.hid hD3
    clear hD3 hT02
    go_wp2_with fail
    refine (sync_ok HD3.out (by decide)).mono ?_
    rintro e w4 ⟨rfl, L, hL, hD4, hT4⟩
    have HD4 := Lib.hid hD4
    have hT04 : Touch (fun _ => False) w w4 := hT3.trans' hT4 (fun i hi => .inr (HNS.out i hi))
    clear hL hD4 hT4
    go_wp2_with fail
    refine (copyd_calls HD4.out).mono ?_
    rintro e w5 ⟨bo, lo, mo, co, rfl, hO5, hMo, hT5⟩
    have hDl := HD4.out.lt
    have HD5 := Lib.hid (HD4.out.still hT5)
    have HO5 := Lib.hid hO5
    have hT05 := hT04.trans hT5
    have hOl := hO5.lt
    clear hO5
    go_wp2_with fail
    refine (copyd_calls HD5.out).mono ?_
    rintro e w6 ⟨bn, ln, mn, cn, rfl, hN6, hMn, hT6⟩
    have HD6 := Lib.hid (HD5.out.still hT6)
    have HO6 := Lib.hid (HO5.out.still hT6)
    have HN6 := Lib.hid hN6
    have hT06 := hT05.trans hT6
    have hz4 := hT04.size
    have hz5 := hT05.size
    have hz6 := hT5.size
    have HDO : Hid (¬ DkS b lb mb bo ∧ ¬ DkS b lb mb lo ∧ ¬ DkS b lb mb mo) := Lib.hid ⟨fun h => by rcases h with h | h | h <;> omega, fun h => by rcases h with h | h | h <;> omega, fun h => by rcases h with h | h | h <;> omega⟩
    have HDN : Hid (¬ DkS b lb mb bn ∧ ¬ DkS b lb mb ln ∧ ¬ DkS b lb mb mn) := Lib.hid ⟨fun h => by rcases h with h | h | h <;> omega, fun h => by rcases h with h | h | h <;> omega, fun h => by rcases h with h | h | h <;> omega⟩
    have HND : Hid (¬ DkS bn ln mn b ∧ ¬ DkS bn ln mn lb ∧ ¬ DkS bn ln mn mb) := Lib.hid ⟨fun h => by rcases h with h | h | h <;> omega, fun h => by rcases h with h | h | h <;> omega, fun h => by rcases h with h | h | h <;> omega⟩
    have HNO : Hid (¬ DkS bn ln mn bo ∧ ¬ DkS bn ln mn lo ∧ ¬ DkS bn ln mn mo) := Lib.hid ⟨fun h => by rcases h with h | h | h <;> omega, fun h => by rcases h with h | h | h <;> omega, fun h => by rcases h with h | h | h <;> omega⟩
    have HNN : Hid (∀ i, DkS bn ln mn i → w.heap.size ≤ i) := Lib.hid (fun i hi => by rcases hi with h | h | h <;> omega)
    clear hN6 hDl hMo hOl hMn hz4 hz5 hz6
    go_upto_block 2 with fail
    go_cut [12] (fun _ wx => ∃ C t, DkAt wx b lb mb cd 8 L C t (-1) true ∧ DkAt wx bn ln mn cn 8 L C t (-1) true ∧ DkAt wx bo lo mo co 8 L [] k0 (-1) true ∧ Touch (fun _ => False) w wx)
    case first =>
      go_wp2_with fail
      go_loopw [12] (fun i wr => ∃ k : Nat, i = .int .i64 k ∧ k ≤ m.length ∧ k ≤ 20 ∧ ∃ C, DkAt wr b lb mb cd 8 L C (k0 + k) (-1) true ∧ DkAt wr bn ln mn cn 8 L C (k0 + k) (-1) true ∧ DkAt wr bo lo mo co 8 L [] k0 (-1) true ∧ Touch (fun _ => False) w wr) (fun i _ => 20 - (intOf i).toNat)
      case atStart => exact ⟨0, rfl, Nat.zero_le _, by omega, [], HD6.out, HN6.out, HO6.out, hT06⟩
      case round =>
        obtain ⟨k, rfl, hk1, hk2, C, hD, hE, hO, hT⟩ := hrel
        by_cases hlt : k < m.length ∧ k < 20
        · obtain ⟨hlt, hlt2⟩ := hlt
          have hkl : (k : Int) < (m.length : Int) := by omega
          have hk20 : (k : Int) < 20 := by omega
          have hkk : (0 : Int) ≤ (k : Int) := by omega
          obtain ⟨g, off, cp, hsl, _, p0, p1, p2, p3, p4⟩ := (HM.out.still hT).at' hlt
          injection hsl with ha hlq hcap
          subst ha
          obtain ⟨i, hi⟩ : ∃ i : Nat, m[k].pos % 8 = (i : Int) := ⟨(m[k].pos % 8).toNat, by omega⟩
          have hi8 : i < 8 := by omega
          have h7 : bits .and .i64 m[k].pos 7 = (i : Int) := by rw [i64_and7, hi]
          generalize m[k].pos = zp at p1 hi h7
          generalize hby : m[k].byt = by' at p2
          have HD := Lib.hid hD
          have HE := Lib.hid hE
          have HO := Lib.hid hO
          have HP : Hid (wr.cell? ⟨g, off + k * 5 + 1, none⟩ = some (.int .i64 zp) ∧ wr.cell? ⟨g, off + k * 5 + 2, none⟩ = some (.int .u8 (by'.toNat : Nat))) := Lib.hid ⟨p1, p2⟩
          have hgl : Hid (g < w.heap.size) := by
            obtain ⟨a9, c9, e9, _, _, _, h9⟩ := HM.out
            rcases h9 with h9 | ⟨g9, o9, e8, hg9, _⟩
            · exact absurd (by rw [h9] at hlt; exact hlt) (Nat.not_lt_zero _)
            · injection e9 with e9; rw [e8] at e9; injection e9 with e9; injection e9 with e9; exact Lib.hid (by rw [e9]; exact hg9)
          clear hlq hcap hby hD hE hO p0 p3 p4 hi
          go_upto_region 14 with fail
          go_region_law (first
            | (go_simp; go_at_call 14; refine (lsector_calls by' _).mono ?_; rintro e wa ⟨rfl, hTa⟩; have a1 := hTa.cell (p := ⟨g, off + k * 5 + 1, none⟩) HP.out.1 id; have a2 := hTa.cell (p := ⟨g, off + k * 5 + 2, none⟩) HP.out.2 id; have HTA : Hid (Touch (fun _ => False) wr wa) := Lib.hid ((Touch.refl (fun _ => False) wr).drew.trans hTa))
            | (go_simp; go_at_call 13; refine (write_ok (HD.out.still HTA.out) i (secB by') (secB_size by') hi8 (by omega) (by omega)).mono ?_; rintro e wb ⟨rfl, hDb, hTb⟩))
          all_goals
            rw [burn_none] at hDb
            have hEb := (HE.out.still HTA.out).kept hTb HDN.out.1 HDN.out.2.1 HDN.out.2.2
            have hOb := (HO.out.still HTA.out).kept hTb HDO.out.1 HDO.out.2.1 HDO.out.2.2
            have hTw : Touch (fun _ => False) w wb := (hT.trans HTA.out).trans' hTb (fun i hi => .inr (HNS.out i hi))
            have hgd : ¬ DkS b lb mb g := fun hi => by have := HNS.out g hi; have := hgl.out; omega
            have r1 := hTb.cell a1 hgd
            have r2 := hTb.cell a2 hgd
            have HDB := Lib.hid hDb
            have HEB := Lib.hid hEb
            have HOB := Lib.hid hOb
            have HR : Hid (wb.cell? ⟨g, off + k * 5 + 1, none⟩ = some (.int .i64 zp) ∧ wb.cell? ⟨g, off + k * 5 + 2, none⟩ = some (.int .u8 (by'.toNat : Nat))) := Lib.hid ⟨r1, r2⟩
            clear hDb hEb hOb p1 p2 a1 a2
            go_upto_region 15 with fail
            go_region_law (first
              | (go_simp; go_at_call 14; refine (lsector_calls by' _).mono ?_; rintro e wc ⟨rfl, hTc⟩; have a1 := hTc.cell (p := ⟨g, off + k * 5 + 1, none⟩) HR.out.1 id; have a2 := hTc.cell (p := ⟨g, off + k * 5 + 2, none⟩) HR.out.2 id; have HTC : Hid (Touch (fun _ => False) wb wc) := Lib.hid ((Touch.refl (fun _ => False) wb).drew.trans hTc))
              | (go_simp; go_at_call 13; refine (write_ok (HEB.out.still HTC.out) i (secB by') (secB_size by') hi8 (by omega) (by omega)).mono ?_; rintro e wd ⟨rfl, hEd, hTd⟩))
            all_goals
              rw [burn_none] at hEd
              have hDd := (HDB.out.still HTC.out).kept hTd HND.out.1 HND.out.2.1 HND.out.2.2
              have hOd := (HOB.out.still HTC.out).kept hTd HNO.out.1 HNO.out.2.1 HNO.out.2.2
              go_wp2_with fail
              go_roundw
              case rel => exact ⟨k + 1, by go_num, by omega, by omega, _, hDd, hEd, hOd, (hTw.trans HTC.out).trans' hTd (fun i hi => .inr (HNN.out i hi))⟩
              case measure => simp [intOf]; omega
        · by_cases hlen : k < m.length
          · obtain rfl : k = 20 := by omega
            have hlI : (20 : Int) < (m.length : Int) := by omega
            have HD := Lib.hid hD
            clear hD hlt
            go_wp2_with fail
            go_meet
            exact ⟨C, _, HD.out, hE, hO, hT⟩
          · have hlI : decide (k < m.length) = false := decide_eq_false hlen
            have HD := Lib.hid hD
            clear hD hlt
            go_wp2_with fail
            go_meet
            exact ⟨C, _, HD.out, hE, hO, hT⟩
    case rest =>
      obtain ⟨C, t, hDx, hNx, hOx, hTx⟩ := hcut
      have hft : ∀ g, 0 < fs.length → v2.ownBlock = some g → ¬ DkS b lb mb g := fun g h0 hg hd => by have := HF.out.2.2 h0 g hg; have := HNS.out g hd; omega
      have HDx := Lib.hid hDx
      have HNx := Lib.hid hNx
      have HOx := Lib.hid hOx
      have hcr := crash_calls HDx.out v2 fs (HF.out.1.still hTx) (fun h0 g hg => hft g h0 hg) HF.out.2.1
      clear hDx hNx hOx hft
      go_wp2_with fail
      refine hcr.mono ?_
      rintro e wy ⟨rfl, hDy, hTy⟩
      have HDy := Lib.hid hDy
      have HNy := Lib.hid (HNx.out.kept hTy HDN.out.1 HDN.out.2.1 HDN.out.2.2)
      have HOy := Lib.hid (HOx.out.kept hTy HDO.out.1 HDO.out.2.1 HDO.out.2.2)
      have hT0y : Touch (fun _ => False) w wy := hTx.trans' hTy (fun i hi => .inr (HNS.out i hi))
      have HC : Hid (L.length = 8 * 64 ∧ (C.map Ent.k).Nodup ∧ ∀ e ∈ C, e.k < 8 ∧ e.s.size = 64) := Lib.hid ⟨HDx.out.len, HDx.out.map.cached.1, fun e he => ⟨(HDx.out.ents e he).1, (HDx.out.ents e he).2.1⟩⟩
      clear hDy hcr hTy
      go_wp2_with fail
      refine (start_calls HDy.out).mono ?_
      rintro e wz ⟨rfl, hDz, hTz⟩
      have hTzb : Touch (DkS b lb mb) wy wz := hTz.mono fun k hk => .inl hk
      have HDz := Lib.hid hDz
      have HNz := Lib.hid (HNy.out.kept hTzb HDN.out.1 HDN.out.2.1 HDN.out.2.2)
      have HOz := Lib.hid (HOy.out.kept hTzb HDO.out.1 HDO.out.2.1 HDO.out.2.2)
      have hT0z : Touch (fun _ => False) w wz := hT0y.trans' hTzb (fun i hi => .inr (HNS.out i hi))
      generalize hLc : crashL L C fs = Lc at HDz
      have HLc := Lib.hid hLc
      clear hDz hTz hTzb hLc
      go_wp2_with fail
      go_loopw [13, 14, 15, 16, 17, 18, 19] (fun i _ _ _ _ _ _ wr => ∃ k : Nat, i = .int .i64 k ∧ k ≤ 8 ∧ DkAt wr b lb mb cd 8 Lc [] t (-1) true ∧ DkAt wr bn ln mn cn 8 L C t (-1) true ∧ DkAt wr bo lo mo co 8 L [] k0 (-1) true ∧ Touch (fun _ => False) w wr) (fun i _ _ _ _ _ _ _ => 8 - (intOf i).toNat)
      case atStart => exact ⟨0, rfl, by omega, HDz.out, HNz.out, HOz.out, hT0z⟩
      case round =>
        obtain ⟨k, rfl, hk8, hD, hE, hO, hT⟩ := hrel
        by_cases hlt : k < 8
        · have hkI : (k : Int) < 8 := by omega
          have HD := Lib.hid hD
          have HE := Lib.hid hE
          have HO := Lib.hid hO
          have h4 := four HC.out.1 HC.out.2.1 HC.out.2.2 fs hlt
          rw [HLc.out] at h4
          have hrd := read_ok HD.out k hlt
          generalize readS Lc [] k = S at h4 hrd
          have H4 := Lib.hid h4
          clear hD hE hO h4
          go_wp2_with fail
          refine hrd.mono ?_
          rintro e wp ⟨rfl, hTp⟩
          have HEp := Lib.hid (HE.out.still hTp)
          have HOp := Lib.hid (HO.out.still hTp)
          have HDp := Lib.hid (HD.out.still hTp)
          have hT0p := hT.trans hTp
          have hro := read_ok HOp.out k hlt
          generalize readS L [] k = A at H4 hro
          clear hrd
          go_wp2_with fail
          refine hro.mono ?_
          rintro e wq ⟨rfl, hTq⟩
          have HEq := Lib.hid (HEp.out.still hTq)
          have HOq := Lib.hid (HOp.out.still hTq)
          have HDq := Lib.hid (HDp.out.still hTq)
          have hT0q := hT0p.trans hTq
          have hrn := read_ok HEq.out k hlt
          generalize readS L C k = B at H4 hrn
          clear hro
          go_wp2_with fail
          refine hrn.mono ?_
          rintro e wr2 ⟨rfl, hTr⟩
          have HEr := Lib.hid (HEq.out.still hTr)
          have HOr := Lib.hid (HOq.out.still hTr)
          have HDr := Lib.hid (HDq.out.still hTr)
          have hT0r := hT0q.trans hTr
          clear hrn
          obtain ⟨h4, hA, hB⟩ := H4.out
          go_upto_region 24 with fail
          by_cases q1 : S = A
          · subst q1
            clear H4 h4 hA hB
            go_quiet (fail)
            go_wp2_with fail
            go_roundw
            case rel => exact ⟨k + 1, by go_num, by omega, HDr.out.still ((Touch.refl _ wr2).drewN _), HEr.out.still ((Touch.refl _ wr2).drewN _), HOr.out.still ((Touch.refl _ wr2).drewN _), hT0r.drewN _⟩
            case measure => simp [intOf]; omega
          have n1 : (S.toList == A.toList) = false := str_ne q1
          by_cases q2 : S = B
          · subst q2
            clear H4 h4 hA hB q1
            go_quiet (fail)
            go_wp2_with fail
            go_roundw
            case rel => exact ⟨k + 1, by go_num, by omega, HDr.out.still ((Touch.refl _ wr2).drewN _), HEr.out.still ((Touch.refl _ wr2).drewN _), HOr.out.still ((Touch.refl _ wr2).drewN _), hT0r.drewN _⟩
            case measure => simp [intOf]; omega
          have n2 : (S.toList == B.toList) = false := str_ne q2
          have c1 : (0 : Int) ≤ 32 ∧ (32 : Int) ≤ 64 := by omega
          have hA2 : (A.size : Int) = 64 := by omega
          have hB2 : (B.size : Int) = 64 := by omega
          by_cases q3 : S = A.extract 0 32 ++ B.extract 32 64
          · subst q3
            clear H4 h4 q1 q2
            go_quiet (fail)
            go_wp2_with fail
            go_roundw
            case rel => exact ⟨k + 1, by go_num, by omega, HDr.out.still ((Touch.refl _ wr2).drewN _), HEr.out.still ((Touch.refl _ wr2).drewN _), HOr.out.still ((Touch.refl _ wr2).drewN _), hT0r.drewN _⟩
            case measure => simp [intOf]; omega
          have q4 : S = B.extract 0 32 ++ A.extract 32 64 := by rcases h4 with h | h | h | h <;> first | exact h | (exact absurd h (by assumption))
          have n3 : (S.toList == (A.extract 0 32 ++ B.extract 32 64).toList) = false := str_ne q3
          subst q4
          clear H4 h4 q1 q2 q3
          go_quiet (fail)
          go_wp2_with fail
          go_roundw
          case rel => exact ⟨k + 1, by go_num, by omega, HDr.out.still ((Touch.refl _ wr2).drewN _), HEr.out.still ((Touch.refl _ wr2).drewN _), HOr.out.still ((Touch.refl _ wr2).drewN _), hT0r.drewN _⟩
          case measure => simp [intOf]; omega
        · obtain rfl : k = 8 := by omega
          have HD := Lib.hid hD
          clear hD hlt
          go_wp2_with fail
          go_ret
          exact ⟨rfl, hT⟩

end Go.Proofs.Ytpgjheckdblggaa
