/- The walk of layer 13's statement that a head's headers are read again. -/
import Derived.Test.YthnjpapfombhnaaDoorZipQ
namespace Go.Proofs.YthnjpapfombhnaaDoor
open Go Go.RowKit
set_option maxRecDepth 100000

theorem of_anyB (tm : Int) (h2 : tm ≤ 9223372036854775807) : ∃ (b : Bool) (t : Tim), ∀ W, Calls Tryd.prog 55 #[.int .i64 tm] W fun e w' => e = .returned (.tuple #[t.v, .bool b]) ∧ Touch (fun _ => False) W w' := by
  by_cases h1 : tm < 0
  · exact ⟨false, Tim.zero, fun W => of_neg tm W h1⟩
  · by_cases h3 : 2019643200 ≤ tm
    · exact ⟨false, Tim.zero, fun W => of_big tm W h3 h2⟩
    · obtain ⟨t, ht, rfl⟩ := num_surj tm (by omega) (by omega)
      exact ⟨true, t, fun W => of_calls t W ht⟩

set_option maxHeartbeats 1000000 in
theorem zback_bad (n : ByteArray) (tm : Int) (p z s a : Nat) (k b : Bool) (t : Tim) (mo' : ByteArray) (cut : Int) (hn : n.size ≤ 9223372036854775807) (hOf : ∀ W, Calls Tryd.prog 55 #[.int .i64 tm] W fun e w' => e = .returned (.tuple #[t.v, .bool b]) ∧ Touch (fun _ => False) W w') (nm : ByteArray) (hnm : n.extract 0 (min n.size 300) = nm)
    (ho : HdOk (Hd.mk nm t p z s a k)) (hg : goodH (Hd.mk nm t p z s a k) = false) (w : World) (hT : Tabs w) : Calls Tryd.prog 9 #[argV n tm p z s a k, .string mo', .int .i64 cut] w fun e w' => e = .returned (.bool true) ∧ Touch (fun _ => False) w w' := by
  have HSP := Lib.hid (fun W (hT : Tabs W) => speaks13_calls W hT)
  have HMD0 := fun W => made_calls n tm p z s a k b t hn hOf W
  rw [hnm] at HMD0
  have HMD := Lib.hid HMD0
  have HG0 := fun W => refGood13_calls (Hd.mk nm t p z s a k) ho W
  rw [hg] at HG0
  have HG := Lib.hid HG0
  clear HMD0 HG0 hOf ho hg hnm
  obtain ⟨y, mo, dd, hh, mi, ss⟩ := t
  unfold Hd.v Hd.cs argV at *
  simp only at HMD HG ⊢
  generalize (p : Int) = pI at *
  generalize (z : Int) = zI at *
  generalize (s : Int) = sI at *
  generalize (a : Int) = aI at *
  go_enter Tryd.func9, Tryd.ntmps9
  go_wp2_with (first
    | (go_at_call 24; refine (HSP.out _ (hT.kept ((Touch.refl _ _).alloc _))).mono ?_; rintro e w1 ⟨rfl, ht1⟩; have hb1 := ht1.held (heap_alloc_new w _) id; obtain ⟨a0, a1, a2, a3, a4, a5, a6⟩ := row7 hb1; have HT1 := Lib.hid (((Touch.refl (fun _ => False) w).alloc _).trans ht1); clear hb1 ht1)
    | (go_at_call 27; refine (HMD.out _).mono ?_; rintro e w2 ⟨rfl, ht2⟩; have HT2 := Lib.hid (HT1.out.trans ht2); clear ht2 a0 a1 a2 a3 a4 a5 a6)
    | (go_at_call 28; refine (HG.out _).mono ?_; rintro e w3 ⟨rfl, ht3⟩; have hb3 : w3.heap[w2.heap.size]? = some (.cells #[.string nm, .int .i64 y, .int .i64 mo, .int .i64 dd, .int .i64 hh, .int .i64 mi, .int .i64 ss, .int .u64 pI, .int .u64 zI, .int .u32 sI, .int .u64 aI, .bool k] 48) := ht3.held (((Touch.refl (fun _ => False) (w2.alloc (.cells #[.string nm, .int .i64 y, .int .i64 mo, .int .i64 dd, .int .i64 hh, .int .i64 mi, .int .i64 ss, .int .u64 pI, .int .u64 zI, .int .u32 sI, .int .u64 aI, .bool k] 48))).alloc (.cells #[.string nm, .int .i64 y, .int .i64 mo, .int .i64 dd, .int .i64 hh, .int .i64 mi, .int .i64 ss, .int .u64 pI, .int .u64 zI, .int .u32 sI, .int .u64 aI, .bool k] 51)).held (heap_alloc_new w2 _) id) id; obtain ⟨⟨c0, c1, c2, c3, c4, c5⟩, c6, c7, c8, c9, c10, c11⟩ := row12 hb3; have HB3 := Lib.hid hb3; have HT3 := Lib.hid (((HT2.out.alloc _).alloc _).trans ht3); clear hb3 ht3))
  go_ret
  exact ⟨rfl, HT3.out⟩

set_option maxHeartbeats 3000000 in
theorem zback_0 (n : ByteArray) (tm : Int) (p z s a : Nat) (k b : Bool) (t : Tim) (mo' : ByteArray) (cut : Int) (hn : n.size ≤ 9223372036854775807) (hOf : ∀ W, Calls Tryd.prog 55 #[.int .i64 tm] W fun e w' => e = .returned (.tuple #[t.v, .bool b]) ∧ Touch (fun _ => False) W w') (nm : ByteArray) (hnm : n.extract 0 (min n.size 300) = nm)
    (ho : HdOk (Hd.mk nm t p z s a k)) (hg : goodH (Hd.mk nm t p z s a k) = true) (hb : bigH (Hd.mk nm t p z s a k) = false) (_hcut : -9223372036854775808 ≤ cut ∧ cut ≤ 9223372036854775807) (w : World) (hT : Tabs w) : Calls Tryd.prog 9 #[argV n tm p z s a k, .string mo', .int .i64 cut] w fun e w' => e = .returned (.bool true) ∧ Touch (fun _ => False) w w' := by
  have HSP := Lib.hid (fun W (hT : Tabs W) => speaks13_calls W hT)
  have HMD0 := fun W => made_calls n tm p z s a k b t hn hOf W
  rw [hnm] at HMD0
  have HMD := Lib.hid HMD0
  have HG0 := fun W => refGood13_calls (Hd.mk nm t p z s a k) ho W
  rw [hg] at HG0
  have HG := Lib.hid HG0
  have HB := Lib.hid (fun W => big_b false (Hd.mk nm t p z s a k) hb W)
  have HL0 := fun W (hT : Tabs W) => local_calls (Hd.mk nm t p z s a k) ho W hT
  have HC0 := fun W (hT : Tabs W) => central_calls (Hd.mk nm t p z s a k) ho W hT
  rw [show localB (Hd.mk nm t p z s a k) = locB (Hd.mk nm t p z s a k) by unfold localB; rw [hg]; rfl] at HL0
  rw [show centralB (Hd.mk nm t p z s a k) = cenB (Hd.mk nm t p z s a k) by unfold centralB; rw [hg]; rfl] at HC0
  have hns : nm.size ≤ 300 := by rw [← hnm, ByteArray.size_extract]; omega
  obtain ⟨q, hq⟩ : ∃ q, q = min mo'.size 20 := ⟨_, rfl⟩
  have hq1 : min (mo'.size : Int) 20 = (q : Int) := by omega
  have hq0 : (0 : Int) ≤ (q : Int) := by omega
  have hql : (q : Int) ≤ (mo'.size : Int) := by omega
  obtain ⟨MO, hMO⟩ : ∃ m, mo'.extract 0 q = m := ⟨_, rfl⟩
  have hMs : MO.size ≤ 20 := by rw [← hMO, ByteArray.size_extract]; omega
  have l1 := locB_size (Hd.mk nm t p z s a k)
  have l2 := locE_size (Hd.mk nm t p z s a k)
  have l3 := cenB_size (Hd.mk nm t p z s a k)
  have l4 := wide_le (Hd.mk nm t p z s a k)
  have l5 : (locE (Hd.mk nm t p z s a k)).size ≤ 20 := by rw [l2]; split <;> omega
  simp only at l1 l3
  have r1 := back_local (Hd.mk nm t p z s a k) MO hg
  have r2 := back_central (Hd.mk nm t p z s a k) ho MO hg
  have r3 := cut_local (Hd.mk nm t p z s a k) hg
  have r4 := cut_central (Hd.mk nm t p z s a k) hg
  have hlh : locH (Hd.mk nm t p z s a k) = ⟨nm, t, 0, if false = true then full32 else 0, 0, 0, k⟩ := by unfold locH; rw [hb]
  rw [hlh] at r1
  obtain ⟨LS, hLS⟩ : ∃ L, (locB (Hd.mk nm t p z s a k)).size = L := ⟨_, rfl⟩
  obtain ⟨CS, hCS⟩ : ∃ L, (cenB (Hd.mk nm t p z s a k)).size = L := ⟨_, rfl⟩
  have LS1 : 1 ≤ LS := by omega
  have LS2 : LS ≤ 400 := by omega
  have CS1 : 1 ≤ CS := by omega
  have CS2 : CS ≤ 400 := by omega
  obtain ⟨u1, hu1⟩ : ∃ u, cut.tmod (LS : Int) = u := ⟨_, rfl⟩
  obtain ⟨v1, hv1⟩ : ∃ v : Nat, (u1 + (LS : Int)).tmod (LS : Int) = v := ⟨((u1 + (LS : Int)).tmod (LS : Int)).toNat, by
    have h1 := Int.lt_tmod_of_pos cut (show (0 : Int) < LS by omega)
    have h2 := Int.tmod_lt_of_pos cut (show (0 : Int) < LS by omega)
    have h3 : 0 ≤ (u1 + (LS : Int)).tmod (LS : Int) := Int.tmod_nonneg _ (by omega)
    omega⟩
  obtain ⟨u2, hu2⟩ : ∃ u, cut.tmod (CS : Int) = u := ⟨_, rfl⟩
  obtain ⟨v2, hv2⟩ : ∃ v : Nat, (u2 + (CS : Int)).tmod (CS : Int) = v := ⟨((u2 + (CS : Int)).tmod (CS : Int)).toNat, by
    have h1 := Int.lt_tmod_of_pos cut (show (0 : Int) < CS by omega)
    have h2 := Int.tmod_lt_of_pos cut (show (0 : Int) < CS by omega)
    have h3 : 0 ≤ (u2 + (CS : Int)).tmod (CS : Int) := Int.tmod_nonneg _ (by omega)
    omega⟩
  have ub1 : -400 ≤ u1 ∧ u1 ≤ 400 := by
    have h1 := Int.lt_tmod_of_pos cut (show (0 : Int) < LS by omega)
    have h2 := Int.tmod_lt_of_pos cut (show (0 : Int) < LS by omega)
    omega
  have ub2 : -400 ≤ u2 ∧ u2 ≤ 400 := by
    have h1 := Int.lt_tmod_of_pos cut (show (0 : Int) < CS by omega)
    have h2 := Int.tmod_lt_of_pos cut (show (0 : Int) < CS by omega)
    omega
  have vb1 : v1 < LS := by
    have := Int.tmod_lt_of_pos (u1 + (LS : Int)) (show (0 : Int) < LS by omega)
    omega
  have vb2 : v2 < CS := by
    have := Int.tmod_lt_of_pos (u2 + (CS : Int)) (show (0 : Int) < CS by omega)
    omega
  have r3' := r3 v1 (by omega)
  have r4' := r4 v2 (by omega)
  have z1 : ((locB (Hd.mk nm t p z s a k)).size : Int) = (LS : Int) := by omega
  have z2 : ((cenB (Hd.mk nm t p z s a k)).size : Int) = (CS : Int) := by omega
  rw [z1] at r1
  rw [z2] at r2
  generalize locB (Hd.mk nm t p z s a k) = LB at *
  generalize cenB (Hd.mk nm t p z s a k) = CB at *
  have HL := Lib.hid HL0
  have HC := Lib.hid HC0
  have HR1 := fun W (h : Tabs W) => zreadL_calls (LB ++ MO) (by rw [ByteArray.size_append]; omega) W h
  have HR2 := fun W (h : Tabs W) => zreadC_calls (CB ++ MO) (by rw [ByteArray.size_append]; omega) W h
  have HR3 := fun W (h : Tabs W) => zreadL_calls (LB.extract 0 v1) (by rw [ByteArray.size_extract]; omega) W h
  have HR4 := fun W (h : Tabs W) => zreadC_calls (CB.extract 0 v2) (by rw [ByteArray.size_extract]; omega) W h
  rw [r1] at HR1
  rw [r2] at HR2
  rw [r3'] at HR3
  rw [r4'] at HR4
  have HQ1 := Lib.hid HR1
  have HQ2 := Lib.hid HR2
  have HQ3 := Lib.hid HR3
  have HQ4 := Lib.hid HR4
  have hMs' : (MO.size : Int) ≤ 20 := by omega
  have vb1' : (v1 : Int) ≤ (LS : Int) := by omega
  have vb2' : (v2 : Int) ≤ (CS : Int) := by omega
  have v10 : (0 : Int) ≤ (v1 : Int) := by omega
  have v20 : (0 : Int) ≤ (v2 : Int) := by omega
  have LSn : ¬ LS = 0 := by omega
  have CSn : ¬ CS = 0 := by omega
  have LS2' : (LS : Int) ≤ 400 := by omega
  have CS2' : (CS : Int) ≤ 400 := by omega
  obtain ⟨ub1a, ub1b⟩ := ub1
  obtain ⟨ub2a, ub2b⟩ := ub2
  clear HMD0 HG0 HL0 HC0 hOf ho hg hnm hb r1 r2 r3 r4 r3' r4' HR1 HR2 HR3 HR4 l1 l2 l3 l4 l5 hlh hq hMs hns hLS hCS vb1 vb2 LS1 LS2 CS1 CS2
  obtain ⟨y, mo, dd, hh, mi, ss⟩ := t
  unfold Hd.v Hd.cs argV at *
  unfold zeroH Tim.zero at *
  simp only [if_false, Bool.false_eq_true, full32, Int.cast_ofNat_Int] at HMD HG HL HC HB HQ1 HQ2 HQ3 HQ4 ⊢
  generalize (p : Int) = pI at *
  generalize (z : Int) = zI at *
  generalize (s : Int) = sI at *
  generalize (a : Int) = aI at *
  go_enter Tryd.func9, Tryd.ntmps9
  go_wp2_with (first
    | (go_at_call 24; refine (HSP.out _ (hT.kept ((Touch.refl _ _).alloc _))).mono ?_; rintro e w1 ⟨rfl, ht1⟩; have hb1 := ht1.held (heap_alloc_new w _) id; obtain ⟨a0, a1, a2, a3, a4, a5, a6⟩ := row7 hb1; have HT1 := Lib.hid (((Touch.refl (fun _ => False) w).alloc _).trans ht1); clear hb1 ht1)
    | (go_at_call 27; refine (HMD.out _).mono ?_; rintro e w2 ⟨rfl, ht2⟩; have HT2 := Lib.hid (HT1.out.trans ht2); clear ht2 a0 a1 a2 a3 a4 a5 a6)
    | (go_at_call 28; refine (HG.out _).mono ?_; rintro e w3 ⟨rfl, ht3⟩; have hb3 : w3.heap[w2.heap.size]? = some (.cells #[.string nm, .int .i64 y, .int .i64 mo, .int .i64 dd, .int .i64 hh, .int .i64 mi, .int .i64 ss, .int .u64 pI, .int .u64 zI, .int .u32 sI, .int .u64 aI, .bool k] 48) := ht3.held (((Touch.refl (fun _ => False) (w2.alloc (.cells #[.string nm, .int .i64 y, .int .i64 mo, .int .i64 dd, .int .i64 hh, .int .i64 mi, .int .i64 ss, .int .u64 pI, .int .u64 zI, .int .u32 sI, .int .u64 aI, .bool k] 48))).alloc (.cells #[.string nm, .int .i64 y, .int .i64 mo, .int .i64 dd, .int .i64 hh, .int .i64 mi, .int .i64 ss, .int .u64 pI, .int .u64 zI, .int .u32 sI, .int .u64 aI, .bool k] 51)).held (heap_alloc_new w2 _) id) id; obtain ⟨⟨c0, c1, c2, c3, c4, c5⟩, c6, c7, c8, c9, c10, c11⟩ := row12 hb3; have HB3 := Lib.hid hb3; have HT3 := Lib.hid (((HT2.out.alloc _).alloc _).trans ht3); clear hb3 ht3))
  refine wp_abs (fun wx => wx.heap[w2.heap.size]? = some (.cells #[.string nm, .int .i64 y, .int .i64 mo, .int .i64 dd, .int .i64 hh, .int .i64 mi, .int .i64 ss, .int .u64 pI, .int .u64 zI, .int .u32 sI, .int .u64 aI, .bool k] 48) ∧ Touch (fun _ => False) w wx) ⟨HB3.out, HT3.out⟩ ?_
  clear c0 c1 c2 c3 c4 c5 c6 c7 c8 c9 c10 c11 HB3 HT3
  rintro wx ⟨hbx, ht⟩
  obtain ⟨⟨c0, c1, c2, c3, c4, c5⟩, c6, c7, c8, c9, c10, c11⟩ := row12w hbx
  have HBX := Lib.hid hbx
  have HX := Lib.hid ht
  clear hbx ht
  refine wp_region_quiet_touch (fun _ => False) (by kernel_rfl) (by kernel_rfl) ?_
  repeat (go_big_quiet_step (first
    | (go_at_call 29; exact quiet_touch (HL.out _ (hT.kept (HX.out.trans (Wd.ok _)))))
    | (go_at_call 30; exact quiet_touch (HC.out _ (hT.kept (HX.out.trans (Wd.ok _)))))))
  refine wpQuiet_nil ?_
  intro _ hw1
  obtain ⟨T, hw2⟩ := hw1
  subst hw2
  clear c0 c1 c2 c3 c4 c5 c6 c7 c8 c9 c10 c11
  have hba := T.ok.held HBX.out id
  have hta := HX.out.trans T.ok
  generalize T.V = wa at *
  have HBA := Lib.hid hba
  have HTA := Lib.hid hta
  clear hba hta HBX HX
  go_wp2_with (first
    | (go_at_call 31; (with_reducible refine (HQ1.out _ (hT.kept HTA.out)).mono ?_); rintro e w5 ⟨rfl, ht5⟩; have hb5 := ht5.held HBA.out id; obtain ⟨⟨c0, c1, c2, c3, c4, c5⟩, c6, c7, c8, c9, c10, c11⟩ := row12 hb5; have hl5 := row_lt hb5; have HB5 := Lib.hid hb5; have HT5 := Lib.hid (HTA.out.trans ht5); clear hb5 ht5)
    | (go_at_call 32; refine (HB.out _).mono ?_; rintro e w6 ⟨rfl, ht6⟩; clear c0 c1 c2 c3 c4 c5 c6 c7 c8 c9 c10 c11; have hb6 : w6.heap[w2.heap.size]? = some (.cells #[.string nm, .int .i64 y, .int .i64 mo, .int .i64 dd, .int .i64 hh, .int .i64 mi, .int .i64 ss, .int .u64 pI, .int .u64 zI, .int .u32 sI, .int .u64 aI, .bool k] 48) := ht6.held ((((Touch.refl (fun _ => False) w5).alloc (.cells #[.string nm, .int .i64 y, .int .i64 mo, .int .i64 dd, .int .i64 hh, .int .i64 mi, .int .i64 ss, .int .u64 0, .int .u64 0, .int .u32 0, .int .u64 0, .bool k] 48)).alloc (.cells #[.string nm, .int .i64 y, .int .i64 mo, .int .i64 dd, .int .i64 hh, .int .i64 mi, .int .i64 ss, .int .u64 0, .int .u64 0, .int .u32 0, .int .u64 0, .bool k] 48)).held HB5.out id) id; have hg6 : w6.heap[w5.heap.size]? = some (.cells #[.string nm, .int .i64 y, .int .i64 mo, .int .i64 dd, .int .i64 hh, .int .i64 mi, .int .i64 ss, .int .u64 0, .int .u64 0, .int .u32 0, .int .u64 0, .bool k] 48) := ht6.held (((Touch.refl (fun _ => False) (w5.alloc (.cells #[.string nm, .int .i64 y, .int .i64 mo, .int .i64 dd, .int .i64 hh, .int .i64 mi, .int .i64 ss, .int .u64 0, .int .u64 0, .int .u32 0, .int .u64 0, .bool k] 48))).alloc (.cells #[.string nm, .int .i64 y, .int .i64 mo, .int .i64 dd, .int .i64 hh, .int .i64 mi, .int .i64 ss, .int .u64 0, .int .u64 0, .int .u32 0, .int .u64 0, .bool k] 48)).held (heap_alloc_new w5 _) id) id; have hw6 : w6.heap[w5.heap.size + 1]? = some (.cells #[.string nm, .int .i64 y, .int .i64 mo, .int .i64 dd, .int .i64 hh, .int .i64 mi, .int .i64 ss, .int .u64 0, .int .u64 0, .int .u32 0, .int .u64 0, .bool k] 48) := ht6.held (by rw [← alloc_size w5 (.cells #[.string nm, .int .i64 y, .int .i64 mo, .int .i64 dd, .int .i64 hh, .int .i64 mi, .int .i64 ss, .int .u64 0, .int .u64 0, .int .u32 0, .int .u64 0, .bool k] 48)]; exact heap_alloc_new _ _) id; obtain ⟨⟨c0, c1, c2, c3, c4, c5⟩, c6, c7, c8, c9, c10, c11⟩ := row12 hw6; have hfw := box_free hw6; have hlw := row_lt hw6; have HB6 := Lib.hid hb6; have HG6 := Lib.hid hg6; have HW6 := Lib.hid hw6; have HT6 := Lib.hid (((HT5.out.alloc _).alloc _).trans ht6); clear hb6 hg6 hw6 ht6)
    | (go_at_call 33; (with_reducible refine (HQ2.out _ (hT.kept HT6.out)).mono ?_); rintro e w7 ⟨rfl, ht7⟩; clear c0 c1 c2 c3 c4 c5 c6 c7 c8 c9 c10 c11 hfw hlw; have hb7 : w7.heap[w2.heap.size]? = some (.cells #[.string nm, .int .i64 y, .int .i64 mo, .int .i64 dd, .int .i64 hh, .int .i64 mi, .int .i64 ss, .int .u64 pI, .int .u64 zI, .int .u32 sI, .int .u64 aI, .bool k] 48) := ht7.held HB6.out id; have hg7 : w7.heap[w5.heap.size]? = some (.cells #[.string nm, .int .i64 y, .int .i64 mo, .int .i64 dd, .int .i64 hh, .int .i64 mi, .int .i64 ss, .int .u64 0, .int .u64 0, .int .u32 0, .int .u64 0, .bool k] 48) := ht7.held HG6.out id; have hw7 : w7.heap[w5.heap.size + 1]? = some (.cells #[.string nm, .int .i64 y, .int .i64 mo, .int .i64 dd, .int .i64 hh, .int .i64 mi, .int .i64 ss, .int .u64 0, .int .u64 0, .int .u32 0, .int .u64 0, .bool k] 48) := ht7.held HW6.out id; obtain ⟨⟨c0, c1, c2, c3, c4, c5⟩, c6, c7, c8, c9, c10, c11⟩ := row12 hb7; obtain ⟨⟨d0, d1, d2, d3, d4, d5⟩, d6, d7, d8, d9, d10, d11⟩ := row12 hg7; obtain ⟨⟨e0, e1, e2, e3, e4, e5⟩, e6, e7, e8, e9, e10, e11⟩ := row12 hw7; have lb7 := row_lt hb7; have lg7 := row_lt hg7; have lw7 := row_lt hw7; have HT7 := Lib.hid (HT6.out.trans ht7); clear hb7 hg7 hw7 ht7)
    | (go_at_call 31; (with_reducible refine (HQ3.out _ (hT.kept (HT7.out.alloc _))).mono ?_); rintro e w8 ⟨rfl, ht8⟩; have HT8 := Lib.hid ((HT7.out.alloc _).trans ht8); clear ht8)
    | (go_at_call 33; (with_reducible refine (HQ4.out _ (hT.kept HT8.out)).mono ?_); rintro e w9 ⟨rfl, ht9⟩; have HT9 := Lib.hid (HT8.out.trans ht9); clear ht9))
  go_ret
  exact ⟨rfl, HT9.out⟩

set_option maxHeartbeats 3000000 in
theorem zback_1 (n : ByteArray) (tm : Int) (p z s a : Nat) (k b : Bool) (t : Tim) (mo' : ByteArray) (cut : Int) (hn : n.size ≤ 9223372036854775807) (hOf : ∀ W, Calls Tryd.prog 55 #[.int .i64 tm] W fun e w' => e = .returned (.tuple #[t.v, .bool b]) ∧ Touch (fun _ => False) W w') (nm : ByteArray) (hnm : n.extract 0 (min n.size 300) = nm)
    (ho : HdOk (Hd.mk nm t p z s a k)) (hg : goodH (Hd.mk nm t p z s a k) = true) (hb : bigH (Hd.mk nm t p z s a k) = true) (_hcut : -9223372036854775808 ≤ cut ∧ cut ≤ 9223372036854775807) (w : World) (hT : Tabs w) : Calls Tryd.prog 9 #[argV n tm p z s a k, .string mo', .int .i64 cut] w fun e w' => e = .returned (.bool true) ∧ Touch (fun _ => False) w w' := by
  have HSP := Lib.hid (fun W (hT : Tabs W) => speaks13_calls W hT)
  have HMD0 := fun W => made_calls n tm p z s a k b t hn hOf W
  rw [hnm] at HMD0
  have HMD := Lib.hid HMD0
  have HG0 := fun W => refGood13_calls (Hd.mk nm t p z s a k) ho W
  rw [hg] at HG0
  have HG := Lib.hid HG0
  have HB := Lib.hid (fun W => big_b true (Hd.mk nm t p z s a k) hb W)
  have HL0 := fun W (hT : Tabs W) => local_calls (Hd.mk nm t p z s a k) ho W hT
  have HC0 := fun W (hT : Tabs W) => central_calls (Hd.mk nm t p z s a k) ho W hT
  rw [show localB (Hd.mk nm t p z s a k) = locB (Hd.mk nm t p z s a k) by unfold localB; rw [hg]; rfl] at HL0
  rw [show centralB (Hd.mk nm t p z s a k) = cenB (Hd.mk nm t p z s a k) by unfold centralB; rw [hg]; rfl] at HC0
  have hns : nm.size ≤ 300 := by rw [← hnm, ByteArray.size_extract]; omega
  obtain ⟨q, hq⟩ : ∃ q, q = min mo'.size 20 := ⟨_, rfl⟩
  have hq1 : min (mo'.size : Int) 20 = (q : Int) := by omega
  have hq0 : (0 : Int) ≤ (q : Int) := by omega
  have hql : (q : Int) ≤ (mo'.size : Int) := by omega
  obtain ⟨MO, hMO⟩ : ∃ m, mo'.extract 0 q = m := ⟨_, rfl⟩
  have hMs : MO.size ≤ 20 := by rw [← hMO, ByteArray.size_extract]; omega
  have l1 := locB_size (Hd.mk nm t p z s a k)
  have l2 := locE_size (Hd.mk nm t p z s a k)
  have l3 := cenB_size (Hd.mk nm t p z s a k)
  have l4 := wide_le (Hd.mk nm t p z s a k)
  have l5 : (locE (Hd.mk nm t p z s a k)).size ≤ 20 := by rw [l2]; split <;> omega
  simp only at l1 l3
  have r1 := back_local (Hd.mk nm t p z s a k) MO hg
  have r2 := back_central (Hd.mk nm t p z s a k) ho MO hg
  have r3 := cut_local (Hd.mk nm t p z s a k) hg
  have r4 := cut_central (Hd.mk nm t p z s a k) hg
  have hlh : locH (Hd.mk nm t p z s a k) = ⟨nm, t, 0, if true = true then full32 else 0, 0, 0, k⟩ := by unfold locH; rw [hb]
  rw [hlh] at r1
  obtain ⟨LS, hLS⟩ : ∃ L, (locB (Hd.mk nm t p z s a k)).size = L := ⟨_, rfl⟩
  obtain ⟨CS, hCS⟩ : ∃ L, (cenB (Hd.mk nm t p z s a k)).size = L := ⟨_, rfl⟩
  have LS1 : 1 ≤ LS := by omega
  have LS2 : LS ≤ 400 := by omega
  have CS1 : 1 ≤ CS := by omega
  have CS2 : CS ≤ 400 := by omega
  obtain ⟨u1, hu1⟩ : ∃ u, cut.tmod (LS : Int) = u := ⟨_, rfl⟩
  obtain ⟨v1, hv1⟩ : ∃ v : Nat, (u1 + (LS : Int)).tmod (LS : Int) = v := ⟨((u1 + (LS : Int)).tmod (LS : Int)).toNat, by
    have h1 := Int.lt_tmod_of_pos cut (show (0 : Int) < LS by omega)
    have h2 := Int.tmod_lt_of_pos cut (show (0 : Int) < LS by omega)
    have h3 : 0 ≤ (u1 + (LS : Int)).tmod (LS : Int) := Int.tmod_nonneg _ (by omega)
    omega⟩
  obtain ⟨u2, hu2⟩ : ∃ u, cut.tmod (CS : Int) = u := ⟨_, rfl⟩
  obtain ⟨v2, hv2⟩ : ∃ v : Nat, (u2 + (CS : Int)).tmod (CS : Int) = v := ⟨((u2 + (CS : Int)).tmod (CS : Int)).toNat, by
    have h1 := Int.lt_tmod_of_pos cut (show (0 : Int) < CS by omega)
    have h2 := Int.tmod_lt_of_pos cut (show (0 : Int) < CS by omega)
    have h3 : 0 ≤ (u2 + (CS : Int)).tmod (CS : Int) := Int.tmod_nonneg _ (by omega)
    omega⟩
  have ub1 : -400 ≤ u1 ∧ u1 ≤ 400 := by
    have h1 := Int.lt_tmod_of_pos cut (show (0 : Int) < LS by omega)
    have h2 := Int.tmod_lt_of_pos cut (show (0 : Int) < LS by omega)
    omega
  have ub2 : -400 ≤ u2 ∧ u2 ≤ 400 := by
    have h1 := Int.lt_tmod_of_pos cut (show (0 : Int) < CS by omega)
    have h2 := Int.tmod_lt_of_pos cut (show (0 : Int) < CS by omega)
    omega
  have vb1 : v1 < LS := by
    have := Int.tmod_lt_of_pos (u1 + (LS : Int)) (show (0 : Int) < LS by omega)
    omega
  have vb2 : v2 < CS := by
    have := Int.tmod_lt_of_pos (u2 + (CS : Int)) (show (0 : Int) < CS by omega)
    omega
  have r3' := r3 v1 (by omega)
  have r4' := r4 v2 (by omega)
  have z1 : ((locB (Hd.mk nm t p z s a k)).size : Int) = (LS : Int) := by omega
  have z2 : ((cenB (Hd.mk nm t p z s a k)).size : Int) = (CS : Int) := by omega
  rw [z1] at r1
  rw [z2] at r2
  generalize locB (Hd.mk nm t p z s a k) = LB at *
  generalize cenB (Hd.mk nm t p z s a k) = CB at *
  have HL := Lib.hid HL0
  have HC := Lib.hid HC0
  have HR1 := fun W (h : Tabs W) => zreadL_calls (LB ++ MO) (by rw [ByteArray.size_append]; omega) W h
  have HR2 := fun W (h : Tabs W) => zreadC_calls (CB ++ MO) (by rw [ByteArray.size_append]; omega) W h
  have HR3 := fun W (h : Tabs W) => zreadL_calls (LB.extract 0 v1) (by rw [ByteArray.size_extract]; omega) W h
  have HR4 := fun W (h : Tabs W) => zreadC_calls (CB.extract 0 v2) (by rw [ByteArray.size_extract]; omega) W h
  rw [r1] at HR1
  rw [r2] at HR2
  rw [r3'] at HR3
  rw [r4'] at HR4
  have HQ1 := Lib.hid HR1
  have HQ2 := Lib.hid HR2
  have HQ3 := Lib.hid HR3
  have HQ4 := Lib.hid HR4
  have hMs' : (MO.size : Int) ≤ 20 := by omega
  have vb1' : (v1 : Int) ≤ (LS : Int) := by omega
  have vb2' : (v2 : Int) ≤ (CS : Int) := by omega
  have v10 : (0 : Int) ≤ (v1 : Int) := by omega
  have v20 : (0 : Int) ≤ (v2 : Int) := by omega
  have LSn : ¬ LS = 0 := by omega
  have CSn : ¬ CS = 0 := by omega
  have LS2' : (LS : Int) ≤ 400 := by omega
  have CS2' : (CS : Int) ≤ 400 := by omega
  obtain ⟨ub1a, ub1b⟩ := ub1
  obtain ⟨ub2a, ub2b⟩ := ub2
  clear HMD0 HG0 HL0 HC0 hOf ho hg hnm hb r1 r2 r3 r4 r3' r4' HR1 HR2 HR3 HR4 l1 l2 l3 l4 l5 hlh hq hMs hns hLS hCS vb1 vb2 LS1 LS2 CS1 CS2
  obtain ⟨y, mo, dd, hh, mi, ss⟩ := t
  unfold Hd.v Hd.cs argV at *
  unfold zeroH Tim.zero at *
  simp only [if_true, full32, Int.cast_ofNat_Int] at HMD HG HL HC HB HQ1 HQ2 HQ3 HQ4 ⊢
  generalize (p : Int) = pI at *
  generalize (z : Int) = zI at *
  generalize (s : Int) = sI at *
  generalize (a : Int) = aI at *
  go_enter Tryd.func9, Tryd.ntmps9
  go_wp2_with (first
    | (go_at_call 24; refine (HSP.out _ (hT.kept ((Touch.refl _ _).alloc _))).mono ?_; rintro e w1 ⟨rfl, ht1⟩; have hb1 := ht1.held (heap_alloc_new w _) id; obtain ⟨a0, a1, a2, a3, a4, a5, a6⟩ := row7 hb1; have HT1 := Lib.hid (((Touch.refl (fun _ => False) w).alloc _).trans ht1); clear hb1 ht1)
    | (go_at_call 27; refine (HMD.out _).mono ?_; rintro e w2 ⟨rfl, ht2⟩; have HT2 := Lib.hid (HT1.out.trans ht2); clear ht2 a0 a1 a2 a3 a4 a5 a6)
    | (go_at_call 28; refine (HG.out _).mono ?_; rintro e w3 ⟨rfl, ht3⟩; have hb3 : w3.heap[w2.heap.size]? = some (.cells #[.string nm, .int .i64 y, .int .i64 mo, .int .i64 dd, .int .i64 hh, .int .i64 mi, .int .i64 ss, .int .u64 pI, .int .u64 zI, .int .u32 sI, .int .u64 aI, .bool k] 48) := ht3.held (((Touch.refl (fun _ => False) (w2.alloc (.cells #[.string nm, .int .i64 y, .int .i64 mo, .int .i64 dd, .int .i64 hh, .int .i64 mi, .int .i64 ss, .int .u64 pI, .int .u64 zI, .int .u32 sI, .int .u64 aI, .bool k] 48))).alloc (.cells #[.string nm, .int .i64 y, .int .i64 mo, .int .i64 dd, .int .i64 hh, .int .i64 mi, .int .i64 ss, .int .u64 pI, .int .u64 zI, .int .u32 sI, .int .u64 aI, .bool k] 51)).held (heap_alloc_new w2 _) id) id; obtain ⟨⟨c0, c1, c2, c3, c4, c5⟩, c6, c7, c8, c9, c10, c11⟩ := row12 hb3; have HB3 := Lib.hid hb3; have HT3 := Lib.hid (((HT2.out.alloc _).alloc _).trans ht3); clear hb3 ht3))
  refine wp_abs (fun wx => wx.heap[w2.heap.size]? = some (.cells #[.string nm, .int .i64 y, .int .i64 mo, .int .i64 dd, .int .i64 hh, .int .i64 mi, .int .i64 ss, .int .u64 pI, .int .u64 zI, .int .u32 sI, .int .u64 aI, .bool k] 48) ∧ Touch (fun _ => False) w wx) ⟨HB3.out, HT3.out⟩ ?_
  clear c0 c1 c2 c3 c4 c5 c6 c7 c8 c9 c10 c11 HB3 HT3
  rintro wx ⟨hbx, ht⟩
  obtain ⟨⟨c0, c1, c2, c3, c4, c5⟩, c6, c7, c8, c9, c10, c11⟩ := row12w hbx
  have HBX := Lib.hid hbx
  have HX := Lib.hid ht
  clear hbx ht
  refine wp_region_quiet_touch (fun _ => False) (by kernel_rfl) (by kernel_rfl) ?_
  repeat (go_big_quiet_step (first
    | (go_at_call 29; exact quiet_touch (HL.out _ (hT.kept (HX.out.trans (Wd.ok _)))))
    | (go_at_call 30; exact quiet_touch (HC.out _ (hT.kept (HX.out.trans (Wd.ok _)))))))
  refine wpQuiet_nil ?_
  intro _ hw1
  obtain ⟨T, hw2⟩ := hw1
  subst hw2
  clear c0 c1 c2 c3 c4 c5 c6 c7 c8 c9 c10 c11
  have hba := T.ok.held HBX.out id
  have hta := HX.out.trans T.ok
  generalize T.V = wa at *
  have HBA := Lib.hid hba
  have HTA := Lib.hid hta
  clear hba hta HBX HX
  go_wp2_with (first
    | (go_at_call 31; (with_reducible refine (HQ1.out _ (hT.kept HTA.out)).mono ?_); rintro e w5 ⟨rfl, ht5⟩; have hb5 := ht5.held HBA.out id; obtain ⟨⟨c0, c1, c2, c3, c4, c5⟩, c6, c7, c8, c9, c10, c11⟩ := row12 hb5; have hl5 := row_lt hb5; have HB5 := Lib.hid hb5; have HT5 := Lib.hid (HTA.out.trans ht5); clear hb5 ht5)
    | (go_at_call 32; refine (HB.out _).mono ?_; rintro e w6 ⟨rfl, ht6⟩; clear c0 c1 c2 c3 c4 c5 c6 c7 c8 c9 c10 c11; have hb6 : w6.heap[w2.heap.size]? = some (.cells #[.string nm, .int .i64 y, .int .i64 mo, .int .i64 dd, .int .i64 hh, .int .i64 mi, .int .i64 ss, .int .u64 pI, .int .u64 zI, .int .u32 sI, .int .u64 aI, .bool k] 48) := ht6.held ((((Touch.refl (fun _ => False) w5).alloc (.cells #[.string nm, .int .i64 y, .int .i64 mo, .int .i64 dd, .int .i64 hh, .int .i64 mi, .int .i64 ss, .int .u64 0, .int .u64 4294967295, .int .u32 0, .int .u64 0, .bool k] 48)).alloc (.cells #[.string nm, .int .i64 y, .int .i64 mo, .int .i64 dd, .int .i64 hh, .int .i64 mi, .int .i64 ss, .int .u64 0, .int .u64 0, .int .u32 0, .int .u64 0, .bool k] 48)).held HB5.out id) id; have hg6 : w6.heap[w5.heap.size]? = some (.cells #[.string nm, .int .i64 y, .int .i64 mo, .int .i64 dd, .int .i64 hh, .int .i64 mi, .int .i64 ss, .int .u64 0, .int .u64 4294967295, .int .u32 0, .int .u64 0, .bool k] 48) := ht6.held (((Touch.refl (fun _ => False) (w5.alloc (.cells #[.string nm, .int .i64 y, .int .i64 mo, .int .i64 dd, .int .i64 hh, .int .i64 mi, .int .i64 ss, .int .u64 0, .int .u64 4294967295, .int .u32 0, .int .u64 0, .bool k] 48))).alloc (.cells #[.string nm, .int .i64 y, .int .i64 mo, .int .i64 dd, .int .i64 hh, .int .i64 mi, .int .i64 ss, .int .u64 0, .int .u64 0, .int .u32 0, .int .u64 0, .bool k] 48)).held (heap_alloc_new w5 _) id) id; have hw6 : w6.heap[w5.heap.size + 1]? = some (.cells #[.string nm, .int .i64 y, .int .i64 mo, .int .i64 dd, .int .i64 hh, .int .i64 mi, .int .i64 ss, .int .u64 0, .int .u64 0, .int .u32 0, .int .u64 0, .bool k] 48) := ht6.held (by rw [← alloc_size w5 (.cells #[.string nm, .int .i64 y, .int .i64 mo, .int .i64 dd, .int .i64 hh, .int .i64 mi, .int .i64 ss, .int .u64 0, .int .u64 4294967295, .int .u32 0, .int .u64 0, .bool k] 48)]; exact heap_alloc_new _ _) id; obtain ⟨⟨c0, c1, c2, c3, c4, c5⟩, c6, c7, c8, c9, c10, c11⟩ := row12 hw6; have hfw := box_free hw6; have hlw := row_lt hw6; have HB6 := Lib.hid hb6; have HG6 := Lib.hid hg6; have HW6 := Lib.hid hw6; have HT6 := Lib.hid (((HT5.out.alloc _).alloc _).trans ht6); clear hb6 hg6 hw6 ht6)
    | (go_at_call 33; (with_reducible refine (HQ2.out _ (hT.kept (HT6.out.setCell (p := ⟨w5.heap.size + 1, 8, none⟩) (.inr (Nat.le_trans HT5.out.size (Nat.le_succ _))) (.int .u64 4294967295)))).mono ?_); rintro e w7 ⟨rfl, ht7⟩; clear c0 c1 c2 c3 c4 c5 c6 c7 c8 c9 c10 c11 hfw hlw; have hb7 : w7.heap[w2.heap.size]? = some (.cells #[.string nm, .int .i64 y, .int .i64 mo, .int .i64 dd, .int .i64 hh, .int .i64 mi, .int .i64 ss, .int .u64 pI, .int .u64 zI, .int .u32 sI, .int .u64 aI, .bool k] 48) := ht7.held (((Touch.refl (fun k => k = w5.heap.size + 1) w6).setCell (p := ⟨w5.heap.size + 1, 8, none⟩) (.inl rfl) (.int .u64 4294967295)).held HB6.out (Nat.ne_of_lt (Nat.lt_succ_of_lt hl5))) id; have hg7 : w7.heap[w5.heap.size]? = some (.cells #[.string nm, .int .i64 y, .int .i64 mo, .int .i64 dd, .int .i64 hh, .int .i64 mi, .int .i64 ss, .int .u64 0, .int .u64 4294967295, .int .u32 0, .int .u64 0, .bool k] 48) := ht7.held (((Touch.refl (fun k => k = w5.heap.size + 1) w6).setCell (p := ⟨w5.heap.size + 1, 8, none⟩) (.inl rfl) (.int .u64 4294967295)).held HG6.out (Nat.ne_of_lt (Nat.lt_succ_self _))) id; have hw7 : w7.heap[w5.heap.size + 1]? = some (.cells #[.string nm, .int .i64 y, .int .i64 mo, .int .i64 dd, .int .i64 hh, .int .i64 mi, .int .i64 ss, .int .u64 0, .int .u64 4294967295, .int .u32 0, .int .u64 0, .bool k] 48) := ht7.held (heap_setCell_same _ HW6.out) id; obtain ⟨⟨c0, c1, c2, c3, c4, c5⟩, c6, c7, c8, c9, c10, c11⟩ := row12 hb7; obtain ⟨⟨d0, d1, d2, d3, d4, d5⟩, d6, d7, d8, d9, d10, d11⟩ := row12 hg7; obtain ⟨⟨e0, e1, e2, e3, e4, e5⟩, e6, e7, e8, e9, e10, e11⟩ := row12 hw7; have lb7 := row_lt hb7; have lg7 := row_lt hg7; have lw7 := row_lt hw7; have HT7 := Lib.hid ((HT6.out.setCell (p := ⟨w5.heap.size + 1, 8, none⟩) (.inr (Nat.le_trans HT5.out.size (Nat.le_succ _))) (.int .u64 4294967295)).trans ht7); clear hb7 hg7 hw7 ht7)
    | (go_at_call 31; (with_reducible refine (HQ3.out _ (hT.kept (HT7.out.alloc _))).mono ?_); rintro e w8 ⟨rfl, ht8⟩; have HT8 := Lib.hid ((HT7.out.alloc _).trans ht8); clear ht8)
    | (go_at_call 33; (with_reducible refine (HQ4.out _ (hT.kept HT8.out)).mono ?_); rintro e w9 ⟨rfl, ht9⟩; have HT9 := Lib.hid (HT8.out.trans ht9); clear ht9))
  go_ret
  exact ⟨rfl, HT9.out⟩

theorem zback_calls (n : ByteArray) (tm : Int) (p z s a : Nat) (k : Bool) (mo : ByteArray) (cut : Int) (hn : n.size ≤ 9223372036854775807) (htm : tm ≤ 9223372036854775807) (hp : p < 18446744073709551616) (hz : z < 18446744073709551616) (hs : s < 4294967296) (ha : a < 18446744073709551616) (hcut : -9223372036854775808 ≤ cut ∧ cut ≤ 9223372036854775807) (w : World) (hT : Tabs w) :
    Calls Tryd.prog 9 #[argV n tm p z s a k, .string mo, .int .i64 cut] w fun e w' => e = .returned (.bool true) ∧ Touch (fun _ => False) w w' := by
  obtain ⟨b, t, hOf⟩ := of_anyB tm htm
  have ho : HdOk (Hd.mk (n.extract 0 (min n.size 300)) t p z s a k) := ⟨by show (n.extract 0 (min n.size 300)).size ≤ 1000000; rw [ByteArray.size_extract]; omega, hp, hz, hs, ha⟩
  cases hg : goodH (Hd.mk (n.extract 0 (min n.size 300)) t p z s a k)
  · exact zback_bad n tm p z s a k b t mo cut hn hOf _ rfl ho hg w hT
  · cases hb : bigH (Hd.mk (n.extract 0 (min n.size 300)) t p z s a k)
    · exact zback_0 n tm p z s a k b t mo cut hn hOf _ rfl ho hg hb hcut w hT
    · exact zback_1 n tm p z s a k b t mo cut hn hOf _ rfl ho hg hb hcut w hT
end Go.Proofs.YthnjpapfombhnaaDoor
