/- The statement DiskCopies over the translated program. -/
import Derived.Test.YtpgjheckdblggaaDkL
namespace Go.Proofs.Ytpgjheckdblggaa
open Go Go.RowKit Go.Maps
set_option maxRecDepth 100000

theorem findE_put (k i : Nat) (s : ByteArray) (t : Nat) : findE (putE [] k s t) i = if k = i then some ⟨k, s, t⟩ else none := by
  unfold putE findE
  by_cases h : k = i
  · subst h; simp
  · have : ((k : Nat) : Int) ≠ i := by omega
    simp [h, this]
theorem readS_put_same (L : List UInt8) (k : Nat) (s : ByteArray) (t : Nat) : readS L (putE [] k s t) k = s := by
  unfold readS; rw [findE_put, if_pos rfl]
theorem readS_put_other (L : List UInt8) (k i : Nat) (s : ByteArray) (t : Nat) (h : i ≠ k) : readS L (putE [] k s t) i = readS L [] i := by
  unfold readS; rw [findE_put, if_neg (fun e => h e.symm)]; rfl

/-- The disk under way: some cache, by as many Writes. -/
def CopyAt (b lb mb c k : Nat) (L : List UInt8) (w wr : World) : Prop := ∃ C, DkAt wr b lb mb c 8 L C k (-1) true ∧ (0 < k → C.isEmpty = false) ∧ Touch (fun _ => False) w wr

set_option maxHeartbeats 2000000 in
theorem dcopies_calls (l : List DAct) (z : Int) (bb : UInt8) (v : Value) (w : World) (hl : DActs w v l) :
    Calls Try.prog 4 #[v, .int .i64 z, .int .u8 (bb.toNat : Nat)] w fun e w' => e = .returned (.bool true) ∧ Touch (fun _ => False) w w' := by
  obtain ⟨a, cap, hv, hc1, hc2⟩ := hl.form
  unfold maxLen at hc2
  have HL := Lib.hid hl
  clear hl
  subst hv
  go_enter Try.func4, Try.ntmps4
  go_wp2_with fail
  refine (speaks17_calls w).mono ?_
  rintro e w1 ⟨rfl, hT1⟩
  go_wp2_with fail
  refine (new_calls 8 w1 (by omega) (by omega)).mono ?_
  rintro e w2 ⟨b, lb, mb, rfl, hD2, hN, hT2⟩
  have HD2 := Lib.hid hD2
  have hT02 := hT1.trans hT2
  have hs1 := hT1.size
  have hNS : ∀ i, DkS b lb mb i → w.heap.size ≤ i := fun i hi => by rcases hi with h | h | h <;> omega
  have HNS := Lib.hid hNS
  generalize hL0 : List.replicate (8 * 64) (0 : UInt8) = L0 at HD2
  clear hD2 hNS hL0
  generalize (8 * 64 : Nat) = cd at HD2
  go_wp2_with fail
  go_loopw [9] (fun i wr => ∃ k : Nat, i = .int .i64 k ∧ k ≤ l.length ∧ k ≤ 20 ∧ CopyAt b lb mb cd k L0 w wr) (fun i _ => 20 - (intOf i).toNat)
  case atStart => exact ⟨0, rfl, Nat.zero_le _, by omega, [], HD2.out, fun h => absurd h (Nat.lt_irrefl _), hT02⟩
  case round =>
    obtain ⟨k, rfl, hk1, hk2, C, hD, hCe, hT⟩ := hrel
    by_cases hlt : k < l.length ∧ k < 20
    · obtain ⟨hlt, hlt2⟩ := hlt
      have hkl : (k : Int) < (l.length : Int) := by omega
      have hk20 : (k : Int) < 20 := by omega
      have hk0 : (0 : Int) ≤ (k : Int) := by omega
      obtain ⟨g, off, cp, hsl, _, p0, p1, p2, p3, p4⟩ := (HL.out.still hT).at' hlt
      injection hsl with ha hlq hcap
      subst ha
      obtain ⟨i, hi⟩ : ∃ i : Nat, l[k].pos % 8 = (i : Int) := ⟨(l[k].pos % 8).toNat, by omega⟩
      have hi8 : i < 8 := by omega
      have h7 : bits .and .i64 l[k].pos 7 = (i : Int) := by rw [i64_and7, hi]
      generalize l[k].pos = zp at p1 hi h7
      generalize hby : l[k].byt = by' at p2
      have HD := Lib.hid hD
      clear hlq hcap hby hD p0 p3 p4 hi
      have HP : Hid (wr.cell? ⟨g, off + k * 5 + 1, none⟩ = some (.int .i64 zp) ∧ wr.cell? ⟨g, off + k * 5 + 2, none⟩ = some (.int .u8 (by'.toNat : Nat))) := Lib.hid ⟨p1, p2⟩
      go_upto_region 7 with fail
      go_region_law (first
        | (go_simp; go_at_call 14; refine (lsector_calls by' _).mono ?_; rintro e wa ⟨rfl, hTa⟩; have a1 := hTa.cell (p := ⟨g, off + k * 5 + 1, none⟩) HP.out.1 id; have a2 := hTa.cell (p := ⟨g, off + k * 5 + 2, none⟩) HP.out.2 id; have HTA : Hid (Touch (fun _ => False) wr wa) := Lib.hid ((Touch.refl (fun _ => False) wr).drew.trans hTa))
        | (go_simp; go_at_call 13; refine (write_ok (HD.out.still HTA.out) i (secB by') (secB_size by') hi8 (by omega) (by omega)).mono ?_; rintro e wb ⟨rfl, hDb, hTb⟩))
      all_goals
        rw [burn_none] at hDb
        go_wp2_with fail
        go_roundw
        case rel => exact ⟨k + 1, by go_num, by omega, by omega, _, hDb, fun _ => putE_ne _ _ _ _, (hT.trans HTA.out).trans' hTb (fun i hi => .inr (HNS.out i hi))⟩
        case measure => simp [intOf]; omega
    · -- the end
      obtain ⟨j, hj⟩ : ∃ j : Nat, z % 8 = (j : Int) := ⟨(z % 8).toNat, by omega⟩
      have hj8 : j < 8 := by omega
      have h7 : bits .and .i64 z 7 = (j : Int) := by rw [i64_and7, hj]
      have HD := Lib.hid hD
      clear hj hD
      by_cases hlen : k < l.length
      · obtain rfl : k = 20 := by omega
        have hlI : (20 : Int) < (l.length : Int) := by omega
        have dl : decide ((0 : Int) < (l.length : Int)) = true := decide_eq_true (by omega)
        have hCf := hCe (by omega)
        clear hCe hlt
        go_wp2_with fail
        refine (copyd_calls HD.out).mono ?_
        rintro e w3 ⟨b', lb', mb', c', rfl, hE3, hM, hT3⟩
        have hDl := HD.out.lt
        have hwl := hT.size
        have HD3 := Lib.hid (HD.out.still hT3)
        have HE3 := Lib.hid hE3
        have hT03 := hT.trans hT3
        have HA : Hid (¬ DkS b lb mb b' ∧ ¬ DkS b lb mb lb' ∧ ¬ DkS b lb mb mb') := Lib.hid ⟨fun h => by rcases h with h | h | h <;> omega, fun h => by rcases h with h | h | h <;> omega, fun h => by rcases h with h | h | h <;> omega⟩
        have HB : Hid (¬ DkS b' lb' mb' b ∧ ¬ DkS b' lb' mb' lb ∧ ¬ DkS b' lb' mb' mb) := Lib.hid ⟨fun h => by rcases h with h | h | h <;> omega, fun h => by rcases h with h | h | h <;> omega, fun h => by rcases h with h | h | h <;> omega⟩
        have HMS : Hid (∀ i, DkS b' lb' mb' i → w.heap.size ≤ i) := Lib.hid (fun i hi => by rcases hi with h | h | h <;> omega)
        clear hE3 hDl hM hwl
        go_wp2_with fail
        have hsame := samed_calls HD3.out HE3.out
        rw [hCf, Bool.false_and] at hsame
        refine hsame.mono ?_
        rintro e w4 ⟨rfl, q4, rfl⟩
        have hq4 := (Touch.refl (fun _ => False) w3).drewN q4
        have HD4 := Lib.hid (HD3.out.still hq4)
        have HE4 := Lib.hid (HE3.out.still hq4)
        have hT04 : Touch (fun _ => False) w (w3.drewN q4) := hT03.trans hq4
        clear hsame hq4
        generalize w3.drewN q4 = w4 at HD4 HE4 hT04 ⊢
        go_wp2_with fail
        refine (sync_ok HD4.out (by decide)).mono ?_
        rintro e w5 ⟨rfl, L1, hL1, hD5, hT5⟩
        have HD5 := Lib.hid hD5
        have HE5 := Lib.hid (HE4.out.kept hT5 HA.out.1 HA.out.2.1 HA.out.2.2)
        have hT05 : Touch (fun _ => False) w w5 := hT04.trans' hT5 (fun i hi => .inr (HNS.out i hi))
        have HL1 := Lib.hid hL1
        clear hL1 hD5
        go_wp2_with fail
        refine (sync_ok HE5.out (by decide)).mono ?_
        rintro e w6 ⟨rfl, L2, hL2, hE6, hT6⟩
        obtain rfl : L1 = L2 := secs_ext 8 _ _ HL1.out.1 hL2.1 (fun k hk => by rw [HL1.out.2 k hk, hL2.2 k hk])
        have HE6 := Lib.hid hE6
        have HD6 := Lib.hid (HD5.out.kept hT6 HB.out.1 HB.out.2.1 HB.out.2.2)
        have hT06 : Touch (fun _ => False) w w6 := hT05.trans' hT6 (fun i hi => .inr (HMS.out i hi))
        clear hL2 hE6
        go_wp2_with fail
        have hs7 := samed_calls HD6.out HE6.out
        rw [show (([] : List Ent).isEmpty && (([] : List Ent).isEmpty && (L1 == L1))) = true by simp] at hs7
        refine hs7.mono ?_
        rintro e w7 ⟨rfl, q7, rfl⟩
        have hq7 := (Touch.refl (fun _ => False) w6).drewN q7
        have HD7 := Lib.hid (HD6.out.still hq7)
        have HE7 := Lib.hid (HE6.out.still hq7)
        have hT07 : Touch (fun _ => False) w (w6.drewN q7) := hT06.trans hq7
        clear hs7 hq7
        generalize w6.drewN q7 = w7 at HD7 HE7 hT07 ⊢
        go_wp2_with fail
        have hs8 := samed_calls HE7.out HD7.out
        rw [show (([] : List Ent).isEmpty && (([] : List Ent).isEmpty && (L1 == L1))) = true by simp] at hs8
        refine hs8.mono ?_
        rintro e w8 ⟨rfl, q8, rfl⟩
        have hq8 := (Touch.refl (fun _ => False) w7).drewN q8
        have HD8 := Lib.hid (HD7.out.still hq8)
        have HE8 := Lib.hid (HE7.out.still hq8)
        have hT08 : Touch (fun _ => False) w (w7.drewN q8) := hT07.trans hq8
        clear hs8 hq8
        generalize w7.drewN q8 = w8 at HD8 HE8 hT08 ⊢
        go_wp2_with fail
        have hr9 := read_ok HD8.out j hj8
        generalize hS : readS L1 [] j = S at hr9
        refine hr9.mono ?_
        rintro e w9 ⟨rfl, hT9⟩
        have HD9 := Lib.hid (HD8.out.still hT9)
        have HE9 := Lib.hid (HE8.out.still hT9)
        have hT09 := hT08.trans hT9
        have HS := Lib.hid hS
        clear hr9 hS
        go_wp2_with fail
        refine (lsector_calls bb w9).mono ?_
        rintro e wa ⟨rfl, hTa⟩
        have HDa := Lib.hid (HD9.out.still hTa)
        have HEa := Lib.hid (HE9.out.still hTa)
        have hT0a := hT09.trans hTa
        go_wp2_with fail
        refine (write_ok HEa.out j (secB bb) (secB_size bb) hj8 (by decide) (by omega)).mono ?_
        rintro e wb ⟨rfl, hEb, hTb⟩
        rw [burn_none] at hEb
        have HEb := Lib.hid hEb
        have HDb := Lib.hid (HDa.out.kept hTb HB.out.1 HB.out.2.1 HB.out.2.2)
        have hT0b : Touch (fun _ => False) w wb := hT0a.trans' hTb (fun i hi => .inr (HMS.out i hi))
        clear hEb
        go_wp2_with fail
        have hrc := read_ok HDb.out j hj8
        rw [HS.out] at hrc
        refine hrc.mono ?_
        rintro e wc ⟨rfl, hTc⟩
        have HDc := Lib.hid (HDb.out.still hTc)
        have HEc := Lib.hid (HEb.out.still hTc)
        have hT0c := hT0b.trans hTc
        clear hrc
        go_wp2_with fail
        refine (sync_ok HEc.out (by decide)).mono ?_
        rintro e wd ⟨rfl, L3, hL3, hEd, hTd⟩
        have HEd := Lib.hid hEd
        have HDd := Lib.hid (HDc.out.kept hTd HB.out.1 HB.out.2.1 HB.out.2.2)
        have hT0d : Touch (fun _ => False) w wd := hT0c.trans' hTd (fun i hi => .inr (HMS.out i hi))
        have hsj := hL3.2 j hj8
        have hL1l := HL1.out.1
        have HR : Hid ((L1 == L3) = decide (S = secB bb)) := Lib.hid (by
          rw [readS_put_same] at hsj
          by_cases hq : S = secB bb
          · rw [decide_eq_true hq, beq_iff_eq]
            refine secs_ext 8 _ _ hL1l hL3.1 (fun k hk => ?_)
            by_cases hkj : k = j
            · subst hkj
              rw [hsj, ← hq, ← HS.out, readS_list]
            · rw [hL3.2 k hk, readS_put_other _ _ _ _ _ hkj, readS_list]
          · rw [decide_eq_false hq, beq_eq_false_iff_ne]
            intro he
            rw [← he] at hsj
            exact hq (by rw [← HS.out]; apply ba_ext; rw [readS_list, hsj]))
        clear hL3 hEd hsj hL1l
        go_wp2_with fail
        have hse := samed_calls HDd.out HEd.out
        rw [show (([] : List Ent).isEmpty && (([] : List Ent).isEmpty && (L1 == L3))) = (L1 == L3) by simp, HR.out] at hse
        clear HR HS
        by_cases hq : S = secB bb
        · rw [decide_eq_true hq] at hse
          subst hq
          refine hse.mono ?_
          rintro e we ⟨rfl, qe, rfl⟩
          have hqe := (Touch.refl (fun _ => False) wd).drewN qe
          have hT0e : Touch (fun _ => False) w (wd.drewN qe) := hT0d.trans hqe
          clear hse hqe
          generalize wd.drewN qe = we at hT0e ⊢
          go_wp2_with fail
          refine (lsector_calls bb we).mono ?_
          rintro e wf ⟨rfl, hTf⟩
          go_wp2_with fail
          go_ret
          exact ⟨rfl, hT0e.trans hTf⟩
        · rw [decide_eq_false hq] at hse
          have hqf : (S.toList == (secB bb).toList) = false := by
            rw [beq_eq_false_iff_ne]
            intro he
            rw [ByteArray.toList_eq, ByteArray.toList_eq] at he
            exact hq (ba_ext he)
          refine hse.mono ?_
          rintro e we ⟨rfl, qe, rfl⟩
          have hqe := (Touch.refl (fun _ => False) wd).drewN qe
          have hT0e : Touch (fun _ => False) w (wd.drewN qe) := hT0d.trans hqe
          clear hse hqe hq
          generalize wd.drewN qe = we at hT0e ⊢
          go_wp2_with fail
          refine (lsector_calls bb we).mono ?_
          rintro e wf ⟨rfl, hTf⟩
          go_wp2_with fail
          go_ret
          exact ⟨rfl, hT0e.trans hTf⟩

      · obtain rfl : k = l.length := by omega
        have hlI : decide (l.length < l.length) = false := decide_eq_false (by omega)
        by_cases h0 : l.length = 0
        · have dl : decide ((0 : Int) < (l.length : Int)) = false := decide_eq_false (by omega)
          clear hCe hlt
          go_wp2_with fail
          refine (copyd_calls HD.out).mono ?_
          rintro e w3 ⟨b', lb', mb', c', rfl, hE3, hM, hT3⟩
          have hDl := HD.out.lt
          have hwl := hT.size
          have HD3 := Lib.hid (HD.out.still hT3)
          have HE3 := Lib.hid hE3
          have hT03 := hT.trans hT3
          have HA : Hid (¬ DkS b lb mb b' ∧ ¬ DkS b lb mb lb' ∧ ¬ DkS b lb mb mb') := Lib.hid ⟨fun h => by rcases h with h | h | h <;> omega, fun h => by rcases h with h | h | h <;> omega, fun h => by rcases h with h | h | h <;> omega⟩
          have HB : Hid (¬ DkS b' lb' mb' b ∧ ¬ DkS b' lb' mb' lb ∧ ¬ DkS b' lb' mb' mb) := Lib.hid ⟨fun h => by rcases h with h | h | h <;> omega, fun h => by rcases h with h | h | h <;> omega, fun h => by rcases h with h | h | h <;> omega⟩
          have HMS : Hid (∀ i, DkS b' lb' mb' i → w.heap.size ≤ i) := Lib.hid (fun i hi => by rcases hi with h | h | h <;> omega)
          clear hE3 hDl hM hwl
          go_wp2_with fail
          have HD4 := HD3
          have HE4 := HE3
          have hT04 := hT03
          obtain ⟨w4, hw4⟩ : ∃ w4, w4 = w3 := ⟨_, rfl⟩
          rw [← hw4] at HD4 HE4 hT04 ⊢
          clear hw4
          refine (sync_ok HD4.out (by decide)).mono ?_
          rintro e w5 ⟨rfl, L1, hL1, hD5, hT5⟩
          have HD5 := Lib.hid hD5
          have HE5 := Lib.hid (HE4.out.kept hT5 HA.out.1 HA.out.2.1 HA.out.2.2)
          have hT05 : Touch (fun _ => False) w w5 := hT04.trans' hT5 (fun i hi => .inr (HNS.out i hi))
          have HL1 := Lib.hid hL1
          clear hL1 hD5
          go_wp2_with fail
          refine (sync_ok HE5.out (by decide)).mono ?_
          rintro e w6 ⟨rfl, L2, hL2, hE6, hT6⟩
          obtain rfl : L1 = L2 := secs_ext 8 _ _ HL1.out.1 hL2.1 (fun k hk => by rw [HL1.out.2 k hk, hL2.2 k hk])
          have HE6 := Lib.hid hE6
          have HD6 := Lib.hid (HD5.out.kept hT6 HB.out.1 HB.out.2.1 HB.out.2.2)
          have hT06 : Touch (fun _ => False) w w6 := hT05.trans' hT6 (fun i hi => .inr (HMS.out i hi))
          clear hL2 hE6
          go_wp2_with fail
          have hs7 := samed_calls HD6.out HE6.out
          rw [show (([] : List Ent).isEmpty && (([] : List Ent).isEmpty && (L1 == L1))) = true by simp] at hs7
          refine hs7.mono ?_
          rintro e w7 ⟨rfl, q7, rfl⟩
          have hq7 := (Touch.refl (fun _ => False) w6).drewN q7
          have HD7 := Lib.hid (HD6.out.still hq7)
          have HE7 := Lib.hid (HE6.out.still hq7)
          have hT07 : Touch (fun _ => False) w (w6.drewN q7) := hT06.trans hq7
          clear hs7 hq7
          generalize w6.drewN q7 = w7 at HD7 HE7 hT07 ⊢
          go_wp2_with fail
          have hs8 := samed_calls HE7.out HD7.out
          rw [show (([] : List Ent).isEmpty && (([] : List Ent).isEmpty && (L1 == L1))) = true by simp] at hs8
          refine hs8.mono ?_
          rintro e w8 ⟨rfl, q8, rfl⟩
          have hq8 := (Touch.refl (fun _ => False) w7).drewN q8
          have HD8 := Lib.hid (HD7.out.still hq8)
          have HE8 := Lib.hid (HE7.out.still hq8)
          have hT08 : Touch (fun _ => False) w (w7.drewN q8) := hT07.trans hq8
          clear hs8 hq8
          generalize w7.drewN q8 = w8 at HD8 HE8 hT08 ⊢
          go_wp2_with fail
          have hr9 := read_ok HD8.out j hj8
          generalize hS : readS L1 [] j = S at hr9
          refine hr9.mono ?_
          rintro e w9 ⟨rfl, hT9⟩
          have HD9 := Lib.hid (HD8.out.still hT9)
          have HE9 := Lib.hid (HE8.out.still hT9)
          have hT09 := hT08.trans hT9
          have HS := Lib.hid hS
          clear hr9 hS
          go_wp2_with fail
          refine (lsector_calls bb w9).mono ?_
          rintro e wa ⟨rfl, hTa⟩
          have HDa := Lib.hid (HD9.out.still hTa)
          have HEa := Lib.hid (HE9.out.still hTa)
          have hT0a := hT09.trans hTa
          go_wp2_with fail
          refine (write_ok HEa.out j (secB bb) (secB_size bb) hj8 (by decide) (by omega)).mono ?_
          rintro e wb ⟨rfl, hEb, hTb⟩
          rw [burn_none] at hEb
          have HEb := Lib.hid hEb
          have HDb := Lib.hid (HDa.out.kept hTb HB.out.1 HB.out.2.1 HB.out.2.2)
          have hT0b : Touch (fun _ => False) w wb := hT0a.trans' hTb (fun i hi => .inr (HMS.out i hi))
          clear hEb
          go_wp2_with fail
          have hrc := read_ok HDb.out j hj8
          rw [HS.out] at hrc
          refine hrc.mono ?_
          rintro e wc ⟨rfl, hTc⟩
          have HDc := Lib.hid (HDb.out.still hTc)
          have HEc := Lib.hid (HEb.out.still hTc)
          have hT0c := hT0b.trans hTc
          clear hrc
          go_wp2_with fail
          refine (sync_ok HEc.out (by decide)).mono ?_
          rintro e wd ⟨rfl, L3, hL3, hEd, hTd⟩
          have HEd := Lib.hid hEd
          have HDd := Lib.hid (HDc.out.kept hTd HB.out.1 HB.out.2.1 HB.out.2.2)
          have hT0d : Touch (fun _ => False) w wd := hT0c.trans' hTd (fun i hi => .inr (HMS.out i hi))
          have hsj := hL3.2 j hj8
          have hL1l := HL1.out.1
          have HR : Hid ((L1 == L3) = decide (S = secB bb)) := Lib.hid (by
            rw [readS_put_same] at hsj
            by_cases hq : S = secB bb
            · rw [decide_eq_true hq, beq_iff_eq]
              refine secs_ext 8 _ _ hL1l hL3.1 (fun k hk => ?_)
              by_cases hkj : k = j
              · subst hkj
                rw [hsj, ← hq, ← HS.out, readS_list]
              · rw [hL3.2 k hk, readS_put_other _ _ _ _ _ hkj, readS_list]
            · rw [decide_eq_false hq, beq_eq_false_iff_ne]
              intro he
              rw [← he] at hsj
              exact hq (by rw [← HS.out]; apply ba_ext; rw [readS_list, hsj]))
          clear hL3 hEd hsj hL1l
          go_wp2_with fail
          have hse := samed_calls HDd.out HEd.out
          rw [show (([] : List Ent).isEmpty && (([] : List Ent).isEmpty && (L1 == L3))) = (L1 == L3) by simp, HR.out] at hse
          clear HR HS
          by_cases hq : S = secB bb
          · rw [decide_eq_true hq] at hse
            subst hq
            refine hse.mono ?_
            rintro e we ⟨rfl, qe, rfl⟩
            have hqe := (Touch.refl (fun _ => False) wd).drewN qe
            have hT0e : Touch (fun _ => False) w (wd.drewN qe) := hT0d.trans hqe
            clear hse hqe
            generalize wd.drewN qe = we at hT0e ⊢
            go_wp2_with fail
            refine (lsector_calls bb we).mono ?_
            rintro e wf ⟨rfl, hTf⟩
            go_wp2_with fail
            go_ret
            exact ⟨rfl, hT0e.trans hTf⟩
          · rw [decide_eq_false hq] at hse
            have hqf : (S.toList == (secB bb).toList) = false := by
              rw [beq_eq_false_iff_ne]
              intro he
              rw [ByteArray.toList_eq, ByteArray.toList_eq] at he
              exact hq (ba_ext he)
            refine hse.mono ?_
            rintro e we ⟨rfl, qe, rfl⟩
            have hqe := (Touch.refl (fun _ => False) wd).drewN qe
            have hT0e : Touch (fun _ => False) w (wd.drewN qe) := hT0d.trans hqe
            clear hse hqe hq
            generalize wd.drewN qe = we at hT0e ⊢
            go_wp2_with fail
            refine (lsector_calls bb we).mono ?_
            rintro e wf ⟨rfl, hTf⟩
            go_wp2_with fail
            go_ret
            exact ⟨rfl, hT0e.trans hTf⟩

        · have dl : decide ((0 : Int) < (l.length : Int)) = true := decide_eq_true (by omega)
          have hCf := hCe (by omega)
          clear hCe hlt
          go_wp2_with fail
          refine (copyd_calls HD.out).mono ?_
          rintro e w3 ⟨b', lb', mb', c', rfl, hE3, hM, hT3⟩
          have hDl := HD.out.lt
          have hwl := hT.size
          have HD3 := Lib.hid (HD.out.still hT3)
          have HE3 := Lib.hid hE3
          have hT03 := hT.trans hT3
          have HA : Hid (¬ DkS b lb mb b' ∧ ¬ DkS b lb mb lb' ∧ ¬ DkS b lb mb mb') := Lib.hid ⟨fun h => by rcases h with h | h | h <;> omega, fun h => by rcases h with h | h | h <;> omega, fun h => by rcases h with h | h | h <;> omega⟩
          have HB : Hid (¬ DkS b' lb' mb' b ∧ ¬ DkS b' lb' mb' lb ∧ ¬ DkS b' lb' mb' mb) := Lib.hid ⟨fun h => by rcases h with h | h | h <;> omega, fun h => by rcases h with h | h | h <;> omega, fun h => by rcases h with h | h | h <;> omega⟩
          have HMS : Hid (∀ i, DkS b' lb' mb' i → w.heap.size ≤ i) := Lib.hid (fun i hi => by rcases hi with h | h | h <;> omega)
          clear hE3 hDl hM hwl
          go_wp2_with fail
          have hsame := samed_calls HD3.out HE3.out
          rw [hCf, Bool.false_and] at hsame
          refine hsame.mono ?_
          rintro e w4 ⟨rfl, q4, rfl⟩
          have hq4 := (Touch.refl (fun _ => False) w3).drewN q4
          have HD4 := Lib.hid (HD3.out.still hq4)
          have HE4 := Lib.hid (HE3.out.still hq4)
          have hT04 : Touch (fun _ => False) w (w3.drewN q4) := hT03.trans hq4
          clear hsame hq4
          generalize w3.drewN q4 = w4 at HD4 HE4 hT04 ⊢
          go_wp2_with fail
          refine (sync_ok HD4.out (by decide)).mono ?_
          rintro e w5 ⟨rfl, L1, hL1, hD5, hT5⟩
          have HD5 := Lib.hid hD5
          have HE5 := Lib.hid (HE4.out.kept hT5 HA.out.1 HA.out.2.1 HA.out.2.2)
          have hT05 : Touch (fun _ => False) w w5 := hT04.trans' hT5 (fun i hi => .inr (HNS.out i hi))
          have HL1 := Lib.hid hL1
          clear hL1 hD5
          go_wp2_with fail
          refine (sync_ok HE5.out (by decide)).mono ?_
          rintro e w6 ⟨rfl, L2, hL2, hE6, hT6⟩
          obtain rfl : L1 = L2 := secs_ext 8 _ _ HL1.out.1 hL2.1 (fun k hk => by rw [HL1.out.2 k hk, hL2.2 k hk])
          have HE6 := Lib.hid hE6
          have HD6 := Lib.hid (HD5.out.kept hT6 HB.out.1 HB.out.2.1 HB.out.2.2)
          have hT06 : Touch (fun _ => False) w w6 := hT05.trans' hT6 (fun i hi => .inr (HMS.out i hi))
          clear hL2 hE6
          go_wp2_with fail
          have hs7 := samed_calls HD6.out HE6.out
          rw [show (([] : List Ent).isEmpty && (([] : List Ent).isEmpty && (L1 == L1))) = true by simp] at hs7
          refine hs7.mono ?_
          rintro e w7 ⟨rfl, q7, rfl⟩
          have hq7 := (Touch.refl (fun _ => False) w6).drewN q7
          have HD7 := Lib.hid (HD6.out.still hq7)
          have HE7 := Lib.hid (HE6.out.still hq7)
          have hT07 : Touch (fun _ => False) w (w6.drewN q7) := hT06.trans hq7
          clear hs7 hq7
          generalize w6.drewN q7 = w7 at HD7 HE7 hT07 ⊢
          go_wp2_with fail
          have hs8 := samed_calls HE7.out HD7.out
          rw [show (([] : List Ent).isEmpty && (([] : List Ent).isEmpty && (L1 == L1))) = true by simp] at hs8
          refine hs8.mono ?_
          rintro e w8 ⟨rfl, q8, rfl⟩
          have hq8 := (Touch.refl (fun _ => False) w7).drewN q8
          have HD8 := Lib.hid (HD7.out.still hq8)
          have HE8 := Lib.hid (HE7.out.still hq8)
          have hT08 : Touch (fun _ => False) w (w7.drewN q8) := hT07.trans hq8
          clear hs8 hq8
          generalize w7.drewN q8 = w8 at HD8 HE8 hT08 ⊢
          go_wp2_with fail
          have hr9 := read_ok HD8.out j hj8
          generalize hS : readS L1 [] j = S at hr9
          refine hr9.mono ?_
          rintro e w9 ⟨rfl, hT9⟩
          have HD9 := Lib.hid (HD8.out.still hT9)
          have HE9 := Lib.hid (HE8.out.still hT9)
          have hT09 := hT08.trans hT9
          have HS := Lib.hid hS
          clear hr9 hS
          go_wp2_with fail
          refine (lsector_calls bb w9).mono ?_
          rintro e wa ⟨rfl, hTa⟩
          have HDa := Lib.hid (HD9.out.still hTa)
          have HEa := Lib.hid (HE9.out.still hTa)
          have hT0a := hT09.trans hTa
          go_wp2_with fail
          refine (write_ok HEa.out j (secB bb) (secB_size bb) hj8 (by decide) (by omega)).mono ?_
          rintro e wb ⟨rfl, hEb, hTb⟩
          rw [burn_none] at hEb
          have HEb := Lib.hid hEb
          have HDb := Lib.hid (HDa.out.kept hTb HB.out.1 HB.out.2.1 HB.out.2.2)
          have hT0b : Touch (fun _ => False) w wb := hT0a.trans' hTb (fun i hi => .inr (HMS.out i hi))
          clear hEb
          go_wp2_with fail
          have hrc := read_ok HDb.out j hj8
          rw [HS.out] at hrc
          refine hrc.mono ?_
          rintro e wc ⟨rfl, hTc⟩
          have HDc := Lib.hid (HDb.out.still hTc)
          have HEc := Lib.hid (HEb.out.still hTc)
          have hT0c := hT0b.trans hTc
          clear hrc
          go_wp2_with fail
          refine (sync_ok HEc.out (by decide)).mono ?_
          rintro e wd ⟨rfl, L3, hL3, hEd, hTd⟩
          have HEd := Lib.hid hEd
          have HDd := Lib.hid (HDc.out.kept hTd HB.out.1 HB.out.2.1 HB.out.2.2)
          have hT0d : Touch (fun _ => False) w wd := hT0c.trans' hTd (fun i hi => .inr (HMS.out i hi))
          have hsj := hL3.2 j hj8
          have hL1l := HL1.out.1
          have HR : Hid ((L1 == L3) = decide (S = secB bb)) := Lib.hid (by
            rw [readS_put_same] at hsj
            by_cases hq : S = secB bb
            · rw [decide_eq_true hq, beq_iff_eq]
              refine secs_ext 8 _ _ hL1l hL3.1 (fun k hk => ?_)
              by_cases hkj : k = j
              · subst hkj
                rw [hsj, ← hq, ← HS.out, readS_list]
              · rw [hL3.2 k hk, readS_put_other _ _ _ _ _ hkj, readS_list]
            · rw [decide_eq_false hq, beq_eq_false_iff_ne]
              intro he
              rw [← he] at hsj
              exact hq (by rw [← HS.out]; apply ba_ext; rw [readS_list, hsj]))
          clear hL3 hEd hsj hL1l
          go_wp2_with fail
          have hse := samed_calls HDd.out HEd.out
          rw [show (([] : List Ent).isEmpty && (([] : List Ent).isEmpty && (L1 == L3))) = (L1 == L3) by simp, HR.out] at hse
          clear HR HS
          by_cases hq : S = secB bb
          · rw [decide_eq_true hq] at hse
            subst hq
            refine hse.mono ?_
            rintro e we ⟨rfl, qe, rfl⟩
            have hqe := (Touch.refl (fun _ => False) wd).drewN qe
            have hT0e : Touch (fun _ => False) w (wd.drewN qe) := hT0d.trans hqe
            clear hse hqe
            generalize wd.drewN qe = we at hT0e ⊢
            go_wp2_with fail
            refine (lsector_calls bb we).mono ?_
            rintro e wf ⟨rfl, hTf⟩
            go_wp2_with fail
            go_ret
            exact ⟨rfl, hT0e.trans hTf⟩
          · rw [decide_eq_false hq] at hse
            have hqf : (S.toList == (secB bb).toList) = false := by
              rw [beq_eq_false_iff_ne]
              intro he
              rw [ByteArray.toList_eq, ByteArray.toList_eq] at he
              exact hq (ba_ext he)
            refine hse.mono ?_
            rintro e we ⟨rfl, qe, rfl⟩
            have hqe := (Touch.refl (fun _ => False) wd).drewN qe
            have hT0e : Touch (fun _ => False) w (wd.drewN qe) := hT0d.trans hqe
            clear hse hqe hq
            generalize wd.drewN qe = we at hT0e ⊢
            go_wp2_with fail
            refine (lsector_calls bb we).mono ?_
            rintro e wf ⟨rfl, hTf⟩
            go_wp2_with fail
            go_ret
            exact ⟨rfl, hT0e.trans hTf⟩

theorem dcopies_u8 (l : List DAct) (z z2 : Int) (v : Value) (w : World) (hl : DActs w v l) (hz : (Lit.int .u8 z2).wf = true) :
    Calls Try.prog 4 #[v, .int .i64 z, .int .u8 z2] w fun e w' => e = .returned (.bool true) ∧ Touch (fun _ => False) w w' := by
  obtain ⟨m, rfl, hm⟩ := wf_u8 hz
  have h := dcopies_calls l z (UInt8.ofNat m) v w hl
  rw [show (UInt8.ofNat m).toNat = m by simp; omega] at h
  exact h

end Go.Proofs.Ytpgjheckdblggaa
