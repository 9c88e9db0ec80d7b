/- The walk of layer 13's statement how many bytes a head's headers have. -/
import Derived.Test.YthnjpapfombhnaaDoorZipP
namespace Go.Proofs.YthnjpapfombhnaaDoor
open Go Go.RowKit
set_option maxRecDepth 100000

set_option maxHeartbeats 1000000 in
theorem sizes_bad (n : ByteArray) (tm : Int) (p z s a : Nat) (k b : Bool) (t : Tim) (hn : n.size ≤ 9223372036854775807) (hOf : ∀ W, Calls Tryd.prog 55 #[.int .i64 tm] W fun e w' => e = .returned (.tuple #[t.v, .bool b]) ∧ Touch (fun _ => False) W w') (nm : ByteArray) (hnm : n.extract 0 (min n.size 300) = nm)
    (ho : HdOk (Hd.mk nm t p z s a k)) (hg : goodH (Hd.mk nm t p z s a k) = false) (w : World) (hT : Tabs w) : Calls Tryd.prog 11 #[argV n tm p z s a k] w fun e w' => e = .returned (.bool true) ∧ Touch (fun _ => False) w w' := by
  have HSP := Lib.hid (fun W (hT : Tabs W) => speaks13_calls W hT)
  have HMD0 := fun W => made_calls n tm p z s a k b t hn hOf W
  rw [hnm] at HMD0
  have HMD := Lib.hid HMD0
  have HG0 := fun W => refGood13_calls (Hd.mk nm t p z s a k) ho W
  rw [hg] at HG0
  have HG := Lib.hid HG0
  have HL0 := fun W (hT : Tabs W) => local_calls (Hd.mk nm t p z s a k) ho W hT
  have HD0 := fun W (hT : Tabs W) => descr_calls (Hd.mk nm t p z s a k) ho W hT
  have HC0 := fun W (hT : Tabs W) => central_calls (Hd.mk nm t p z s a k) ho W hT
  rw [show localB (Hd.mk nm t p z s a k) = ByteArray.empty by unfold localB; rw [hg]; rfl] at HL0
  rw [show descrB (Hd.mk nm t p z s a k) = ByteArray.empty by unfold descrB; rw [hg]; rfl] at HD0
  rw [show centralB (Hd.mk nm t p z s a k) = ByteArray.empty by unfold centralB; rw [hg]; rfl] at HC0
  have HL := Lib.hid HL0
  have HD := Lib.hid HD0
  have HC := Lib.hid HC0
  have he : (ByteArray.empty.size : Int) = 0 := rfl
  have hem : ((ByteArray.empty ++ ByteArray.empty) ++ ByteArray.empty).toList.isEmpty = true := strNil rfl
  generalize ByteArray.empty = EM at *
  clear HMD0 HG0 HL0 HD0 HC0 hOf ho hg hnm
  obtain ⟨y, mo, dd, hh, mi, ss⟩ := t
  unfold Hd.v Hd.cs argV at *
  simp only at HMD HG HL HD HC ⊢
  generalize (p : Int) = pI at *
  generalize (z : Int) = zI at *
  generalize (s : Int) = sI at *
  generalize (a : Int) = aI at *
  go_enter Tryd.func11, Tryd.ntmps11
  go_wp2_with (first
    | (go_at_call 24; refine (HSP.out _ (hT.kept ((Touch.refl _ _).alloc _))).mono ?_; rintro e w1 ⟨rfl, ht1⟩; have hb1 := ht1.held (heap_alloc_new w _) id; obtain ⟨a0, a1, a2, a3, a4, a5, a6⟩ := row7 hb1; have HT1 := Lib.hid (((Touch.refl (fun _ => False) w).alloc _).trans ht1); clear hb1 ht1)
    | (go_at_call 27; refine (HMD.out _).mono ?_; rintro e w2 ⟨rfl, ht2⟩; have HT2 := Lib.hid (HT1.out.trans ht2); clear ht2 a0 a1 a2 a3 a4 a5 a6)
    | (go_at_call 28; refine (HG.out _).mono ?_; rintro e w3 ⟨rfl, ht3⟩; have hb3 : w3.heap[w2.heap.size]? = some (.cells #[.string nm, .int .i64 y, .int .i64 mo, .int .i64 dd, .int .i64 hh, .int .i64 mi, .int .i64 ss, .int .u64 pI, .int .u64 zI, .int .u32 sI, .int .u64 aI, .bool k] 48) := ht3.held (((Touch.refl (fun _ => False) (w2.alloc (.cells #[.string nm, .int .i64 y, .int .i64 mo, .int .i64 dd, .int .i64 hh, .int .i64 mi, .int .i64 ss, .int .u64 pI, .int .u64 zI, .int .u32 sI, .int .u64 aI, .bool k] 48))).alloc (.cells #[.string nm, .int .i64 y, .int .i64 mo, .int .i64 dd, .int .i64 hh, .int .i64 mi, .int .i64 ss, .int .u64 pI, .int .u64 zI, .int .u32 sI, .int .u64 aI, .bool k] 51)).held (heap_alloc_new w2 _) id) id; obtain ⟨⟨c0, c1, c2, c3, c4, c5⟩, c6, c7, c8, c9, c10, c11⟩ := row12 hb3; have HB3 := Lib.hid hb3; have HT3 := Lib.hid (((HT2.out.alloc _).alloc _).trans ht3); clear hb3 ht3))
  refine wp_abs (fun wx => wx.heap[w2.heap.size]? = some (.cells #[.string nm, .int .i64 y, .int .i64 mo, .int .i64 dd, .int .i64 hh, .int .i64 mi, .int .i64 ss, .int .u64 pI, .int .u64 zI, .int .u32 sI, .int .u64 aI, .bool k] 48) ∧ Touch (fun _ => False) w wx) ⟨HB3.out, HT3.out⟩ ?_
  clear c0 c1 c2 c3 c4 c5 c6 c7 c8 c9 c10 c11 HB3 HT3
  rintro wx ⟨hb, ht⟩
  obtain ⟨⟨c0, c1, c2, c3, c4, c5⟩, c6, c7, c8, c9, c10, c11⟩ := row12w hb
  have HX := Lib.hid ht
  clear hb ht
  refine wp_region_quiet_touch (fun _ => False) (by kernel_rfl) (by kernel_rfl) ?_
  repeat (go_big_quiet_step (first
    | (go_at_call 29; exact quiet_touch (HL.out _ (hT.kept (HX.out.trans (Wd.ok _)))))
    | (go_at_call 36; exact quiet_touch (HD.out _ (hT.kept (HX.out.trans (Wd.ok _)))))
    | (go_at_call 30; exact quiet_touch (HC.out _ (hT.kept (HX.out.trans (Wd.ok _)))))))
  refine wpQuiet_nil ?_
  intro _ hw1
  obtain ⟨T, hw2⟩ := hw1
  subst hw2
  clear c0 c1 c2 c3 c4 c5 c6 c7 c8 c9 c10 c11
  go_wp2
  go_ret
  exact ⟨rfl, HX.out.trans T.ok⟩

set_option maxHeartbeats 2000000 in
theorem sizes_000 (n : ByteArray) (tm : Int) (p z s a : Nat) (b : Bool) (t : Tim) (hn : n.size ≤ 9223372036854775807) (hOf : ∀ W, Calls Tryd.prog 55 #[.int .i64 tm] W fun e w' => e = .returned (.tuple #[t.v, .bool b]) ∧ Touch (fun _ => False) W w') (nm : ByteArray) (hnm : n.extract 0 (min n.size 300) = nm)
    (ho : HdOk (Hd.mk nm t p z s a false)) (hg : goodH (Hd.mk nm t p z s a false) = true) (hb : bigH (Hd.mk nm t p z s a false) = false) (ha : decide (full32 ≤ a) = false) (w : World) (hT : Tabs w) : Calls Tryd.prog 11 #[argV n tm p z s a false] w fun e w' => e = .returned (.bool true) ∧ Touch (fun _ => False) w w' := by
  have HSP := Lib.hid (fun W (hT : Tabs W) => speaks13_calls W hT)
  have HMD0 := fun W => made_calls n tm p z s a false b t hn hOf W
  rw [hnm] at HMD0
  have HMD := Lib.hid HMD0
  have HG0 := fun W => refGood13_calls (Hd.mk nm t p z s a false) ho W
  rw [hg] at HG0
  have HG := Lib.hid HG0
  have HB := Lib.hid (fun W => big_b false (Hd.mk nm t p z s a false) hb W)
  have HL0 := fun W (hT : Tabs W) => local_calls (Hd.mk nm t p z s a false) ho W hT
  have HD0 := fun W (hT : Tabs W) => descr_calls (Hd.mk nm t p z s a false) ho W hT
  have HC0 := fun W (hT : Tabs W) => central_calls (Hd.mk nm t p z s a false) ho W hT
  rw [show localB (Hd.mk nm t p z s a false) = locB (Hd.mk nm t p z s a false) by unfold localB; rw [hg]; rfl] at HL0
  rw [show centralB (Hd.mk nm t p z s a false) = cenB (Hd.mk nm t p z s a false) by unfold centralB; rw [hg]; rfl] at HC0
  have hns : nm.size ≤ 300 := by rw [← hnm, ByteArray.size_extract]; omega
  have z1 : ((locB (Hd.mk nm t p z s a false)).size : Int) = 30 + (nm.size : Int) := by rw [locB_size, locE_size, hb]; simp
  have z2 : ((descrB (Hd.mk nm t p z s a false)).size : Int) = 16 := by
    unfold descrB
    rw [hg]
    show ((desB _).size : Int) = 16
    rw [desB_size, hb]
    rfl
  have z3 : ((cenB (Hd.mk nm t p z s a false)).size : Int) = 46 + (nm.size : Int) := by
    rw [cenB_size, wide_size, hb]
    simp only [if_neg (of_decide_eq_false ha), if_true, Bool.false_eq_true, if_false]
    simp
  have n1 : (((locB (Hd.mk nm t p z s a false)).extract 30 (30 + nm.size)).toList == nm.toList) = true := strEq_t (locB_name (Hd.mk nm t p z s a false))
  have n2 : (((cenB (Hd.mk nm t p z s a false)).extract 46 (46 + nm.size)).toList == nm.toList) = true := strEq_t (cenB_name (Hd.mk nm t p z s a false))
  generalize locB (Hd.mk nm t p z s a false) = LB at *
  generalize descrB (Hd.mk nm t p z s a false) = DB at *
  generalize cenB (Hd.mk nm t p z s a false) = CB at *
  have HL := Lib.hid HL0
  have HD := Lib.hid HD0
  have HC := Lib.hid HC0
  have hga : decide ((4294967294 : Int) < (a : Int)) = false := by rw [← ha, decide_eq_decide]; unfold full32; omega
  clear HMD0 HG0 HL0 HD0 HC0 hOf ho hg hnm hb ha
  obtain ⟨y, mo, dd, hh, mi, ss⟩ := t
  unfold Hd.v Hd.cs argV at *
  simp only at HMD HG HL HD HC HB ⊢
  generalize (p : Int) = pI at *
  generalize (z : Int) = zI at *
  generalize (s : Int) = sI at *
  generalize (a : Int) = aI at *
  have hnsI : (nm.size : Int) ≤ 300 := by omega
  go_enter Tryd.func11, Tryd.ntmps11
  go_wp2_with (first
    | (go_at_call 24; refine (HSP.out _ (hT.kept ((Touch.refl _ _).alloc _))).mono ?_; rintro e w1 ⟨rfl, ht1⟩; have hb1 := ht1.held (heap_alloc_new w _) id; obtain ⟨a0, a1, a2, a3, a4, a5, a6⟩ := row7 hb1; have HT1 := Lib.hid (((Touch.refl (fun _ => False) w).alloc _).trans ht1); clear hb1 ht1)
    | (go_at_call 27; refine (HMD.out _).mono ?_; rintro e w2 ⟨rfl, ht2⟩; have HT2 := Lib.hid (HT1.out.trans ht2); clear ht2 a0 a1 a2 a3 a4 a5 a6)
    | (go_at_call 28; refine (HG.out _).mono ?_; rintro e w3 ⟨rfl, ht3⟩; have hb3 : w3.heap[w2.heap.size]? = some (.cells #[.string nm, .int .i64 y, .int .i64 mo, .int .i64 dd, .int .i64 hh, .int .i64 mi, .int .i64 ss, .int .u64 pI, .int .u64 zI, .int .u32 sI, .int .u64 aI, .bool false] 48) := ht3.held (((Touch.refl (fun _ => False) (w2.alloc (.cells #[.string nm, .int .i64 y, .int .i64 mo, .int .i64 dd, .int .i64 hh, .int .i64 mi, .int .i64 ss, .int .u64 pI, .int .u64 zI, .int .u32 sI, .int .u64 aI, .bool false] 48))).alloc (.cells #[.string nm, .int .i64 y, .int .i64 mo, .int .i64 dd, .int .i64 hh, .int .i64 mi, .int .i64 ss, .int .u64 pI, .int .u64 zI, .int .u32 sI, .int .u64 aI, .bool false] 51)).held (heap_alloc_new w2 _) id) id; obtain ⟨⟨c0, c1, c2, c3, c4, c5⟩, c6, c7, c8, c9, c10, c11⟩ := row12 hb3; have HB3 := Lib.hid hb3; have HT3 := Lib.hid (((HT2.out.alloc _).alloc _).trans ht3); clear hb3 ht3))
  go_quiet (fail)
  go_wp2_with (go_at_call 32; refine (HB.out _).mono ?_; rintro e w4 ⟨rfl, ht4⟩; clear c0 c1 c2 c3 c4 c5 c6 c7 c8 c9 c10 c11; have ht4' := ((Touch.refl (fun _ => False) w3).drewN _).trans ht4; have hb4 := ht4'.held HB3.out id; obtain ⟨⟨c0, c1, c2, c3, c4, c5⟩, c6, c7, c8, c9, c10, c11⟩ := row12 hb4; have HB4 := Lib.hid hb4; have HT4 := Lib.hid (HT3.out.trans ht4'); clear hb4 ht4 ht4')
  refine wp_abs (fun wx => wx.heap[w2.heap.size]? = some (.cells #[.string nm, .int .i64 y, .int .i64 mo, .int .i64 dd, .int .i64 hh, .int .i64 mi, .int .i64 ss, .int .u64 pI, .int .u64 zI, .int .u32 sI, .int .u64 aI, .bool false] 48) ∧ Touch (fun _ => False) w wx) ⟨HB4.out, HT4.out⟩ ?_
  clear c0 c1 c2 c3 c4 c5 c6 c7 c8 c9 c10 c11 HB3 HT3 HB4 HT4
  rintro wx ⟨hbx, ht⟩
  obtain ⟨⟨c0, c1, c2, c3, c4, c5⟩, c6, c7, c8, c9, c10, c11⟩ := row12w hbx
  have HX := Lib.hid ht
  clear hbx ht
  refine wp_region_quiet_touch (fun _ => False) (by kernel_rfl) (by kernel_rfl) ?_
  repeat (go_big_quiet_step (first
    | (go_at_call 29; exact quiet_touch (HL.out _ (hT.kept (HX.out.trans (Wd.ok _)))))
    | (go_at_call 36; exact quiet_touch (HD.out _ (hT.kept (HX.out.trans (Wd.ok _)))))
    | (go_at_call 30; exact quiet_touch (HC.out _ (hT.kept (HX.out.trans (Wd.ok _)))))))
  refine wpQuiet_nil ?_
  intro _ hw1
  obtain ⟨T, hw2⟩ := hw1
  subst hw2
  clear c0 c1 c2 c3 c4 c5 c6 c7 c8 c9 c10 c11
  go_wp2
  go_ret
  exact ⟨rfl, HX.out.trans T.ok⟩

set_option maxHeartbeats 2000000 in
theorem sizes_001 (n : ByteArray) (tm : Int) (p z s a : Nat) (b : Bool) (t : Tim) (hn : n.size ≤ 9223372036854775807) (hOf : ∀ W, Calls Tryd.prog 55 #[.int .i64 tm] W fun e w' => e = .returned (.tuple #[t.v, .bool b]) ∧ Touch (fun _ => False) W w') (nm : ByteArray) (hnm : n.extract 0 (min n.size 300) = nm)
    (ho : HdOk (Hd.mk nm t p z s a true)) (hg : goodH (Hd.mk nm t p z s a true) = true) (hb : bigH (Hd.mk nm t p z s a true) = false) (ha : decide (full32 ≤ a) = false) (w : World) (hT : Tabs w) : Calls Tryd.prog 11 #[argV n tm p z s a true] w fun e w' => e = .returned (.bool true) ∧ Touch (fun _ => False) w w' := by
  have HSP := Lib.hid (fun W (hT : Tabs W) => speaks13_calls W hT)
  have HMD0 := fun W => made_calls n tm p z s a true b t hn hOf W
  rw [hnm] at HMD0
  have HMD := Lib.hid HMD0
  have HG0 := fun W => refGood13_calls (Hd.mk nm t p z s a true) ho W
  rw [hg] at HG0
  have HG := Lib.hid HG0
  have HB := Lib.hid (fun W => big_b false (Hd.mk nm t p z s a true) hb W)
  have HL0 := fun W (hT : Tabs W) => local_calls (Hd.mk nm t p z s a true) ho W hT
  have HD0 := fun W (hT : Tabs W) => descr_calls (Hd.mk nm t p z s a true) ho W hT
  have HC0 := fun W (hT : Tabs W) => central_calls (Hd.mk nm t p z s a true) ho W hT
  rw [show localB (Hd.mk nm t p z s a true) = locB (Hd.mk nm t p z s a true) by unfold localB; rw [hg]; rfl] at HL0
  rw [show centralB (Hd.mk nm t p z s a true) = cenB (Hd.mk nm t p z s a true) by unfold centralB; rw [hg]; rfl] at HC0
  have hns : nm.size ≤ 300 := by rw [← hnm, ByteArray.size_extract]; omega
  have z1 : ((locB (Hd.mk nm t p z s a true)).size : Int) = 30 + (nm.size : Int) := by rw [locB_size, locE_size, hb]; simp
  have z2 : ((descrB (Hd.mk nm t p z s a true)).size : Int) = 0 := by
    unfold descrB
    rw [hg]
    rfl
  have z3 : ((cenB (Hd.mk nm t p z s a true)).size : Int) = 46 + (nm.size : Int) := by
    rw [cenB_size, wide_size, hb]
    simp only [if_neg (of_decide_eq_false ha), if_true, Bool.false_eq_true, if_false]
    simp
  have n1 : (((locB (Hd.mk nm t p z s a true)).extract 30 (30 + nm.size)).toList == nm.toList) = true := strEq_t (locB_name (Hd.mk nm t p z s a true))
  have n2 : (((cenB (Hd.mk nm t p z s a true)).extract 46 (46 + nm.size)).toList == nm.toList) = true := strEq_t (cenB_name (Hd.mk nm t p z s a true))
  generalize locB (Hd.mk nm t p z s a true) = LB at *
  generalize descrB (Hd.mk nm t p z s a true) = DB at *
  generalize cenB (Hd.mk nm t p z s a true) = CB at *
  have HL := Lib.hid HL0
  have HD := Lib.hid HD0
  have HC := Lib.hid HC0
  have hga : decide ((4294967294 : Int) < (a : Int)) = false := by rw [← ha, decide_eq_decide]; unfold full32; omega
  clear HMD0 HG0 HL0 HD0 HC0 hOf ho hg hnm hb ha
  obtain ⟨y, mo, dd, hh, mi, ss⟩ := t
  unfold Hd.v Hd.cs argV at *
  simp only at HMD HG HL HD HC HB ⊢
  generalize (p : Int) = pI at *
  generalize (z : Int) = zI at *
  generalize (s : Int) = sI at *
  generalize (a : Int) = aI at *
  have hnsI : (nm.size : Int) ≤ 300 := by omega
  go_enter Tryd.func11, Tryd.ntmps11
  go_wp2_with (first
    | (go_at_call 24; refine (HSP.out _ (hT.kept ((Touch.refl _ _).alloc _))).mono ?_; rintro e w1 ⟨rfl, ht1⟩; have hb1 := ht1.held (heap_alloc_new w _) id; obtain ⟨a0, a1, a2, a3, a4, a5, a6⟩ := row7 hb1; have HT1 := Lib.hid (((Touch.refl (fun _ => False) w).alloc _).trans ht1); clear hb1 ht1)
    | (go_at_call 27; refine (HMD.out _).mono ?_; rintro e w2 ⟨rfl, ht2⟩; have HT2 := Lib.hid (HT1.out.trans ht2); clear ht2 a0 a1 a2 a3 a4 a5 a6)
    | (go_at_call 28; refine (HG.out _).mono ?_; rintro e w3 ⟨rfl, ht3⟩; have hb3 : w3.heap[w2.heap.size]? = some (.cells #[.string nm, .int .i64 y, .int .i64 mo, .int .i64 dd, .int .i64 hh, .int .i64 mi, .int .i64 ss, .int .u64 pI, .int .u64 zI, .int .u32 sI, .int .u64 aI, .bool true] 48) := ht3.held (((Touch.refl (fun _ => False) (w2.alloc (.cells #[.string nm, .int .i64 y, .int .i64 mo, .int .i64 dd, .int .i64 hh, .int .i64 mi, .int .i64 ss, .int .u64 pI, .int .u64 zI, .int .u32 sI, .int .u64 aI, .bool true] 48))).alloc (.cells #[.string nm, .int .i64 y, .int .i64 mo, .int .i64 dd, .int .i64 hh, .int .i64 mi, .int .i64 ss, .int .u64 pI, .int .u64 zI, .int .u32 sI, .int .u64 aI, .bool true] 51)).held (heap_alloc_new w2 _) id) id; obtain ⟨⟨c0, c1, c2, c3, c4, c5⟩, c6, c7, c8, c9, c10, c11⟩ := row12 hb3; have HB3 := Lib.hid hb3; have HT3 := Lib.hid (((HT2.out.alloc _).alloc _).trans ht3); clear hb3 ht3))
  go_quiet (fail)
  go_wp2_with (go_at_call 32; refine (HB.out _).mono ?_; rintro e w4 ⟨rfl, ht4⟩; clear c0 c1 c2 c3 c4 c5 c6 c7 c8 c9 c10 c11; have ht4' := ((Touch.refl (fun _ => False) w3).drewN _).trans ht4; have hb4 := ht4'.held HB3.out id; obtain ⟨⟨c0, c1, c2, c3, c4, c5⟩, c6, c7, c8, c9, c10, c11⟩ := row12 hb4; have HB4 := Lib.hid hb4; have HT4 := Lib.hid (HT3.out.trans ht4'); clear hb4 ht4 ht4')
  refine wp_abs (fun wx => wx.heap[w2.heap.size]? = some (.cells #[.string nm, .int .i64 y, .int .i64 mo, .int .i64 dd, .int .i64 hh, .int .i64 mi, .int .i64 ss, .int .u64 pI, .int .u64 zI, .int .u32 sI, .int .u64 aI, .bool true] 48) ∧ Touch (fun _ => False) w wx) ⟨HB4.out, HT4.out⟩ ?_
  clear c0 c1 c2 c3 c4 c5 c6 c7 c8 c9 c10 c11 HB3 HT3 HB4 HT4
  rintro wx ⟨hbx, ht⟩
  obtain ⟨⟨c0, c1, c2, c3, c4, c5⟩, c6, c7, c8, c9, c10, c11⟩ := row12w hbx
  have HX := Lib.hid ht
  clear hbx ht
  refine wp_region_quiet_touch (fun _ => False) (by kernel_rfl) (by kernel_rfl) ?_
  repeat (go_big_quiet_step (first
    | (go_at_call 29; exact quiet_touch (HL.out _ (hT.kept (HX.out.trans (Wd.ok _)))))
    | (go_at_call 36; exact quiet_touch (HD.out _ (hT.kept (HX.out.trans (Wd.ok _)))))
    | (go_at_call 30; exact quiet_touch (HC.out _ (hT.kept (HX.out.trans (Wd.ok _)))))))
  refine wpQuiet_nil ?_
  intro _ hw1
  obtain ⟨T, hw2⟩ := hw1
  subst hw2
  clear c0 c1 c2 c3 c4 c5 c6 c7 c8 c9 c10 c11
  go_wp2
  go_ret
  exact ⟨rfl, HX.out.trans T.ok⟩

set_option maxHeartbeats 2000000 in
theorem sizes_010 (n : ByteArray) (tm : Int) (p z s a : Nat) (b : Bool) (t : Tim) (hn : n.size ≤ 9223372036854775807) (hOf : ∀ W, Calls Tryd.prog 55 #[.int .i64 tm] W fun e w' => e = .returned (.tuple #[t.v, .bool b]) ∧ Touch (fun _ => False) W w') (nm : ByteArray) (hnm : n.extract 0 (min n.size 300) = nm)
    (ho : HdOk (Hd.mk nm t p z s a false)) (hg : goodH (Hd.mk nm t p z s a false) = true) (hb : bigH (Hd.mk nm t p z s a false) = false) (ha : decide (full32 ≤ a) = true) (w : World) (hT : Tabs w) : Calls Tryd.prog 11 #[argV n tm p z s a false] w fun e w' => e = .returned (.bool true) ∧ Touch (fun _ => False) w w' := by
  have HSP := Lib.hid (fun W (hT : Tabs W) => speaks13_calls W hT)
  have HMD0 := fun W => made_calls n tm p z s a false b t hn hOf W
  rw [hnm] at HMD0
  have HMD := Lib.hid HMD0
  have HG0 := fun W => refGood13_calls (Hd.mk nm t p z s a false) ho W
  rw [hg] at HG0
  have HG := Lib.hid HG0
  have HB := Lib.hid (fun W => big_b false (Hd.mk nm t p z s a false) hb W)
  have HL0 := fun W (hT : Tabs W) => local_calls (Hd.mk nm t p z s a false) ho W hT
  have HD0 := fun W (hT : Tabs W) => descr_calls (Hd.mk nm t p z s a false) ho W hT
  have HC0 := fun W (hT : Tabs W) => central_calls (Hd.mk nm t p z s a false) ho W hT
  rw [show localB (Hd.mk nm t p z s a false) = locB (Hd.mk nm t p z s a false) by unfold localB; rw [hg]; rfl] at HL0
  rw [show centralB (Hd.mk nm t p z s a false) = cenB (Hd.mk nm t p z s a false) by unfold centralB; rw [hg]; rfl] at HC0
  have hns : nm.size ≤ 300 := by rw [← hnm, ByteArray.size_extract]; omega
  have z1 : ((locB (Hd.mk nm t p z s a false)).size : Int) = 30 + (nm.size : Int) := by rw [locB_size, locE_size, hb]; simp
  have z2 : ((descrB (Hd.mk nm t p z s a false)).size : Int) = 16 := by
    unfold descrB
    rw [hg]
    show ((desB _).size : Int) = 16
    rw [desB_size, hb]
    rfl
  have z3 : ((cenB (Hd.mk nm t p z s a false)).size : Int) = 46 + (nm.size : Int) + 12 := by
    rw [cenB_size, wide_size, hb]
    simp only [if_pos (of_decide_eq_true ha), if_true, Bool.false_eq_true, if_false]
    simp
  have n1 : (((locB (Hd.mk nm t p z s a false)).extract 30 (30 + nm.size)).toList == nm.toList) = true := strEq_t (locB_name (Hd.mk nm t p z s a false))
  have n2 : (((cenB (Hd.mk nm t p z s a false)).extract 46 (46 + nm.size)).toList == nm.toList) = true := strEq_t (cenB_name (Hd.mk nm t p z s a false))
  generalize locB (Hd.mk nm t p z s a false) = LB at *
  generalize descrB (Hd.mk nm t p z s a false) = DB at *
  generalize cenB (Hd.mk nm t p z s a false) = CB at *
  have HL := Lib.hid HL0
  have HD := Lib.hid HD0
  have HC := Lib.hid HC0
  have hga : decide ((4294967294 : Int) < (a : Int)) = true := by rw [← ha, decide_eq_decide]; unfold full32; omega
  clear HMD0 HG0 HL0 HD0 HC0 hOf ho hg hnm hb ha
  obtain ⟨y, mo, dd, hh, mi, ss⟩ := t
  unfold Hd.v Hd.cs argV at *
  simp only at HMD HG HL HD HC HB ⊢
  generalize (p : Int) = pI at *
  generalize (z : Int) = zI at *
  generalize (s : Int) = sI at *
  generalize (a : Int) = aI at *
  have hnsI : (nm.size : Int) ≤ 300 := by omega
  go_enter Tryd.func11, Tryd.ntmps11
  go_wp2_with (first
    | (go_at_call 24; refine (HSP.out _ (hT.kept ((Touch.refl _ _).alloc _))).mono ?_; rintro e w1 ⟨rfl, ht1⟩; have hb1 := ht1.held (heap_alloc_new w _) id; obtain ⟨a0, a1, a2, a3, a4, a5, a6⟩ := row7 hb1; have HT1 := Lib.hid (((Touch.refl (fun _ => False) w).alloc _).trans ht1); clear hb1 ht1)
    | (go_at_call 27; refine (HMD.out _).mono ?_; rintro e w2 ⟨rfl, ht2⟩; have HT2 := Lib.hid (HT1.out.trans ht2); clear ht2 a0 a1 a2 a3 a4 a5 a6)
    | (go_at_call 28; refine (HG.out _).mono ?_; rintro e w3 ⟨rfl, ht3⟩; have hb3 : w3.heap[w2.heap.size]? = some (.cells #[.string nm, .int .i64 y, .int .i64 mo, .int .i64 dd, .int .i64 hh, .int .i64 mi, .int .i64 ss, .int .u64 pI, .int .u64 zI, .int .u32 sI, .int .u64 aI, .bool false] 48) := ht3.held (((Touch.refl (fun _ => False) (w2.alloc (.cells #[.string nm, .int .i64 y, .int .i64 mo, .int .i64 dd, .int .i64 hh, .int .i64 mi, .int .i64 ss, .int .u64 pI, .int .u64 zI, .int .u32 sI, .int .u64 aI, .bool false] 48))).alloc (.cells #[.string nm, .int .i64 y, .int .i64 mo, .int .i64 dd, .int .i64 hh, .int .i64 mi, .int .i64 ss, .int .u64 pI, .int .u64 zI, .int .u32 sI, .int .u64 aI, .bool false] 51)).held (heap_alloc_new w2 _) id) id; obtain ⟨⟨c0, c1, c2, c3, c4, c5⟩, c6, c7, c8, c9, c10, c11⟩ := row12 hb3; have HB3 := Lib.hid hb3; have HT3 := Lib.hid (((HT2.out.alloc _).alloc _).trans ht3); clear hb3 ht3))
  go_quiet (fail)
  go_wp2_with (go_at_call 32; refine (HB.out _).mono ?_; rintro e w4 ⟨rfl, ht4⟩; clear c0 c1 c2 c3 c4 c5 c6 c7 c8 c9 c10 c11; have ht4' := ((Touch.refl (fun _ => False) w3).drewN _).trans ht4; have hb4 := ht4'.held HB3.out id; obtain ⟨⟨c0, c1, c2, c3, c4, c5⟩, c6, c7, c8, c9, c10, c11⟩ := row12 hb4; have HB4 := Lib.hid hb4; have HT4 := Lib.hid (HT3.out.trans ht4'); clear hb4 ht4 ht4')
  refine wp_abs (fun wx => wx.heap[w2.heap.size]? = some (.cells #[.string nm, .int .i64 y, .int .i64 mo, .int .i64 dd, .int .i64 hh, .int .i64 mi, .int .i64 ss, .int .u64 pI, .int .u64 zI, .int .u32 sI, .int .u64 aI, .bool false] 48) ∧ Touch (fun _ => False) w wx) ⟨HB4.out, HT4.out⟩ ?_
  clear c0 c1 c2 c3 c4 c5 c6 c7 c8 c9 c10 c11 HB3 HT3 HB4 HT4
  rintro wx ⟨hbx, ht⟩
  obtain ⟨⟨c0, c1, c2, c3, c4, c5⟩, c6, c7, c8, c9, c10, c11⟩ := row12w hbx
  have HX := Lib.hid ht
  clear hbx ht
  refine wp_region_quiet_touch (fun _ => False) (by kernel_rfl) (by kernel_rfl) ?_
  repeat (go_big_quiet_step (first
    | (go_at_call 29; exact quiet_touch (HL.out _ (hT.kept (HX.out.trans (Wd.ok _)))))
    | (go_at_call 36; exact quiet_touch (HD.out _ (hT.kept (HX.out.trans (Wd.ok _)))))
    | (go_at_call 30; exact quiet_touch (HC.out _ (hT.kept (HX.out.trans (Wd.ok _)))))))
  refine wpQuiet_nil ?_
  intro _ hw1
  obtain ⟨T, hw2⟩ := hw1
  subst hw2
  clear c0 c1 c2 c3 c4 c5 c6 c7 c8 c9 c10 c11
  go_wp2
  go_ret
  exact ⟨rfl, HX.out.trans T.ok⟩

set_option maxHeartbeats 2000000 in
theorem sizes_011 (n : ByteArray) (tm : Int) (p z s a : Nat) (b : Bool) (t : Tim) (hn : n.size ≤ 9223372036854775807) (hOf : ∀ W, Calls Tryd.prog 55 #[.int .i64 tm] W fun e w' => e = .returned (.tuple #[t.v, .bool b]) ∧ Touch (fun _ => False) W w') (nm : ByteArray) (hnm : n.extract 0 (min n.size 300) = nm)
    (ho : HdOk (Hd.mk nm t p z s a true)) (hg : goodH (Hd.mk nm t p z s a true) = true) (hb : bigH (Hd.mk nm t p z s a true) = false) (ha : decide (full32 ≤ a) = true) (w : World) (hT : Tabs w) : Calls Tryd.prog 11 #[argV n tm p z s a true] w fun e w' => e = .returned (.bool true) ∧ Touch (fun _ => False) w w' := by
  have HSP := Lib.hid (fun W (hT : Tabs W) => speaks13_calls W hT)
  have HMD0 := fun W => made_calls n tm p z s a true b t hn hOf W
  rw [hnm] at HMD0
  have HMD := Lib.hid HMD0
  have HG0 := fun W => refGood13_calls (Hd.mk nm t p z s a true) ho W
  rw [hg] at HG0
  have HG := Lib.hid HG0
  have HB := Lib.hid (fun W => big_b false (Hd.mk nm t p z s a true) hb W)
  have HL0 := fun W (hT : Tabs W) => local_calls (Hd.mk nm t p z s a true) ho W hT
  have HD0 := fun W (hT : Tabs W) => descr_calls (Hd.mk nm t p z s a true) ho W hT
  have HC0 := fun W (hT : Tabs W) => central_calls (Hd.mk nm t p z s a true) ho W hT
  rw [show localB (Hd.mk nm t p z s a true) = locB (Hd.mk nm t p z s a true) by unfold localB; rw [hg]; rfl] at HL0
  rw [show centralB (Hd.mk nm t p z s a true) = cenB (Hd.mk nm t p z s a true) by unfold centralB; rw [hg]; rfl] at HC0
  have hns : nm.size ≤ 300 := by rw [← hnm, ByteArray.size_extract]; omega
  have z1 : ((locB (Hd.mk nm t p z s a true)).size : Int) = 30 + (nm.size : Int) := by rw [locB_size, locE_size, hb]; simp
  have z2 : ((descrB (Hd.mk nm t p z s a true)).size : Int) = 0 := by
    unfold descrB
    rw [hg]
    rfl
  have z3 : ((cenB (Hd.mk nm t p z s a true)).size : Int) = 46 + (nm.size : Int) + 12 := by
    rw [cenB_size, wide_size, hb]
    simp only [if_pos (of_decide_eq_true ha), if_true, Bool.false_eq_true, if_false]
    simp
  have n1 : (((locB (Hd.mk nm t p z s a true)).extract 30 (30 + nm.size)).toList == nm.toList) = true := strEq_t (locB_name (Hd.mk nm t p z s a true))
  have n2 : (((cenB (Hd.mk nm t p z s a true)).extract 46 (46 + nm.size)).toList == nm.toList) = true := strEq_t (cenB_name (Hd.mk nm t p z s a true))
  generalize locB (Hd.mk nm t p z s a true) = LB at *
  generalize descrB (Hd.mk nm t p z s a true) = DB at *
  generalize cenB (Hd.mk nm t p z s a true) = CB at *
  have HL := Lib.hid HL0
  have HD := Lib.hid HD0
  have HC := Lib.hid HC0
  have hga : decide ((4294967294 : Int) < (a : Int)) = true := by rw [← ha, decide_eq_decide]; unfold full32; omega
  clear HMD0 HG0 HL0 HD0 HC0 hOf ho hg hnm hb ha
  obtain ⟨y, mo, dd, hh, mi, ss⟩ := t
  unfold Hd.v Hd.cs argV at *
  simp only at HMD HG HL HD HC HB ⊢
  generalize (p : Int) = pI at *
  generalize (z : Int) = zI at *
  generalize (s : Int) = sI at *
  generalize (a : Int) = aI at *
  have hnsI : (nm.size : Int) ≤ 300 := by omega
  go_enter Tryd.func11, Tryd.ntmps11
  go_wp2_with (first
    | (go_at_call 24; refine (HSP.out _ (hT.kept ((Touch.refl _ _).alloc _))).mono ?_; rintro e w1 ⟨rfl, ht1⟩; have hb1 := ht1.held (heap_alloc_new w _) id; obtain ⟨a0, a1, a2, a3, a4, a5, a6⟩ := row7 hb1; have HT1 := Lib.hid (((Touch.refl (fun _ => False) w).alloc _).trans ht1); clear hb1 ht1)
    | (go_at_call 27; refine (HMD.out _).mono ?_; rintro e w2 ⟨rfl, ht2⟩; have HT2 := Lib.hid (HT1.out.trans ht2); clear ht2 a0 a1 a2 a3 a4 a5 a6)
    | (go_at_call 28; refine (HG.out _).mono ?_; rintro e w3 ⟨rfl, ht3⟩; have hb3 : w3.heap[w2.heap.size]? = some (.cells #[.string nm, .int .i64 y, .int .i64 mo, .int .i64 dd, .int .i64 hh, .int .i64 mi, .int .i64 ss, .int .u64 pI, .int .u64 zI, .int .u32 sI, .int .u64 aI, .bool true] 48) := ht3.held (((Touch.refl (fun _ => False) (w2.alloc (.cells #[.string nm, .int .i64 y, .int .i64 mo, .int .i64 dd, .int .i64 hh, .int .i64 mi, .int .i64 ss, .int .u64 pI, .int .u64 zI, .int .u32 sI, .int .u64 aI, .bool true] 48))).alloc (.cells #[.string nm, .int .i64 y, .int .i64 mo, .int .i64 dd, .int .i64 hh, .int .i64 mi, .int .i64 ss, .int .u64 pI, .int .u64 zI, .int .u32 sI, .int .u64 aI, .bool true] 51)).held (heap_alloc_new w2 _) id) id; obtain ⟨⟨c0, c1, c2, c3, c4, c5⟩, c6, c7, c8, c9, c10, c11⟩ := row12 hb3; have HB3 := Lib.hid hb3; have HT3 := Lib.hid (((HT2.out.alloc _).alloc _).trans ht3); clear hb3 ht3))
  go_quiet (fail)
  go_wp2_with (go_at_call 32; refine (HB.out _).mono ?_; rintro e w4 ⟨rfl, ht4⟩; clear c0 c1 c2 c3 c4 c5 c6 c7 c8 c9 c10 c11; have ht4' := ((Touch.refl (fun _ => False) w3).drewN _).trans ht4; have hb4 := ht4'.held HB3.out id; obtain ⟨⟨c0, c1, c2, c3, c4, c5⟩, c6, c7, c8, c9, c10, c11⟩ := row12 hb4; have HB4 := Lib.hid hb4; have HT4 := Lib.hid (HT3.out.trans ht4'); clear hb4 ht4 ht4')
  refine wp_abs (fun wx => wx.heap[w2.heap.size]? = some (.cells #[.string nm, .int .i64 y, .int .i64 mo, .int .i64 dd, .int .i64 hh, .int .i64 mi, .int .i64 ss, .int .u64 pI, .int .u64 zI, .int .u32 sI, .int .u64 aI, .bool true] 48) ∧ Touch (fun _ => False) w wx) ⟨HB4.out, HT4.out⟩ ?_
  clear c0 c1 c2 c3 c4 c5 c6 c7 c8 c9 c10 c11 HB3 HT3 HB4 HT4
  rintro wx ⟨hbx, ht⟩
  obtain ⟨⟨c0, c1, c2, c3, c4, c5⟩, c6, c7, c8, c9, c10, c11⟩ := row12w hbx
  have HX := Lib.hid ht
  clear hbx ht
  refine wp_region_quiet_touch (fun _ => False) (by kernel_rfl) (by kernel_rfl) ?_
  repeat (go_big_quiet_step (first
    | (go_at_call 29; exact quiet_touch (HL.out _ (hT.kept (HX.out.trans (Wd.ok _)))))
    | (go_at_call 36; exact quiet_touch (HD.out _ (hT.kept (HX.out.trans (Wd.ok _)))))
    | (go_at_call 30; exact quiet_touch (HC.out _ (hT.kept (HX.out.trans (Wd.ok _)))))))
  refine wpQuiet_nil ?_
  intro _ hw1
  obtain ⟨T, hw2⟩ := hw1
  subst hw2
  clear c0 c1 c2 c3 c4 c5 c6 c7 c8 c9 c10 c11
  go_wp2
  go_ret
  exact ⟨rfl, HX.out.trans T.ok⟩

set_option maxHeartbeats 2000000 in
theorem sizes_100 (n : ByteArray) (tm : Int) (p z s a : Nat) (b : Bool) (t : Tim) (hn : n.size ≤ 9223372036854775807) (hOf : ∀ W, Calls Tryd.prog 55 #[.int .i64 tm] W fun e w' => e = .returned (.tuple #[t.v, .bool b]) ∧ Touch (fun _ => False) W w') (nm : ByteArray) (hnm : n.extract 0 (min n.size 300) = nm)
    (ho : HdOk (Hd.mk nm t p z s a false)) (hg : goodH (Hd.mk nm t p z s a false) = true) (hb : bigH (Hd.mk nm t p z s a false) = true) (ha : decide (full32 ≤ a) = false) (w : World) (hT : Tabs w) : Calls Tryd.prog 11 #[argV n tm p z s a false] w fun e w' => e = .returned (.bool true) ∧ Touch (fun _ => False) w w' := by
  have HSP := Lib.hid (fun W (hT : Tabs W) => speaks13_calls W hT)
  have HMD0 := fun W => made_calls n tm p z s a false b t hn hOf W
  rw [hnm] at HMD0
  have HMD := Lib.hid HMD0
  have HG0 := fun W => refGood13_calls (Hd.mk nm t p z s a false) ho W
  rw [hg] at HG0
  have HG := Lib.hid HG0
  have HB := Lib.hid (fun W => big_b true (Hd.mk nm t p z s a false) hb W)
  have HL0 := fun W (hT : Tabs W) => local_calls (Hd.mk nm t p z s a false) ho W hT
  have HD0 := fun W (hT : Tabs W) => descr_calls (Hd.mk nm t p z s a false) ho W hT
  have HC0 := fun W (hT : Tabs W) => central_calls (Hd.mk nm t p z s a false) ho W hT
  rw [show localB (Hd.mk nm t p z s a false) = locB (Hd.mk nm t p z s a false) by unfold localB; rw [hg]; rfl] at HL0
  rw [show centralB (Hd.mk nm t p z s a false) = cenB (Hd.mk nm t p z s a false) by unfold centralB; rw [hg]; rfl] at HC0
  have hns : nm.size ≤ 300 := by rw [← hnm, ByteArray.size_extract]; omega
  have z1 : ((locB (Hd.mk nm t p z s a false)).size : Int) = 30 + (nm.size : Int) + 20 := by rw [locB_size, locE_size, hb]; simp
  have z2 : ((descrB (Hd.mk nm t p z s a false)).size : Int) = 24 := by
    unfold descrB
    rw [hg]
    show ((desB _).size : Int) = 24
    rw [desB_size, hb]
    rfl
  have z3 : ((cenB (Hd.mk nm t p z s a false)).size : Int) = 46 + (nm.size : Int) + 20 := by
    rw [cenB_size, wide_size, hb]
    simp only [if_neg (of_decide_eq_false ha), if_true, Bool.false_eq_true, if_false]
    simp
  have n1 : (((locB (Hd.mk nm t p z s a false)).extract 30 (30 + nm.size)).toList == nm.toList) = true := strEq_t (locB_name (Hd.mk nm t p z s a false))
  have n2 : (((cenB (Hd.mk nm t p z s a false)).extract 46 (46 + nm.size)).toList == nm.toList) = true := strEq_t (cenB_name (Hd.mk nm t p z s a false))
  generalize locB (Hd.mk nm t p z s a false) = LB at *
  generalize descrB (Hd.mk nm t p z s a false) = DB at *
  generalize cenB (Hd.mk nm t p z s a false) = CB at *
  have HL := Lib.hid HL0
  have HD := Lib.hid HD0
  have HC := Lib.hid HC0
  have hga : decide ((4294967294 : Int) < (a : Int)) = false := by rw [← ha, decide_eq_decide]; unfold full32; omega
  clear HMD0 HG0 HL0 HD0 HC0 hOf ho hg hnm hb ha
  obtain ⟨y, mo, dd, hh, mi, ss⟩ := t
  unfold Hd.v Hd.cs argV at *
  simp only at HMD HG HL HD HC HB ⊢
  generalize (p : Int) = pI at *
  generalize (z : Int) = zI at *
  generalize (s : Int) = sI at *
  generalize (a : Int) = aI at *
  have hnsI : (nm.size : Int) ≤ 300 := by omega
  go_enter Tryd.func11, Tryd.ntmps11
  go_wp2_with (first
    | (go_at_call 24; refine (HSP.out _ (hT.kept ((Touch.refl _ _).alloc _))).mono ?_; rintro e w1 ⟨rfl, ht1⟩; have hb1 := ht1.held (heap_alloc_new w _) id; obtain ⟨a0, a1, a2, a3, a4, a5, a6⟩ := row7 hb1; have HT1 := Lib.hid (((Touch.refl (fun _ => False) w).alloc _).trans ht1); clear hb1 ht1)
    | (go_at_call 27; refine (HMD.out _).mono ?_; rintro e w2 ⟨rfl, ht2⟩; have HT2 := Lib.hid (HT1.out.trans ht2); clear ht2 a0 a1 a2 a3 a4 a5 a6)
    | (go_at_call 28; refine (HG.out _).mono ?_; rintro e w3 ⟨rfl, ht3⟩; have hb3 : w3.heap[w2.heap.size]? = some (.cells #[.string nm, .int .i64 y, .int .i64 mo, .int .i64 dd, .int .i64 hh, .int .i64 mi, .int .i64 ss, .int .u64 pI, .int .u64 zI, .int .u32 sI, .int .u64 aI, .bool false] 48) := ht3.held (((Touch.refl (fun _ => False) (w2.alloc (.cells #[.string nm, .int .i64 y, .int .i64 mo, .int .i64 dd, .int .i64 hh, .int .i64 mi, .int .i64 ss, .int .u64 pI, .int .u64 zI, .int .u32 sI, .int .u64 aI, .bool false] 48))).alloc (.cells #[.string nm, .int .i64 y, .int .i64 mo, .int .i64 dd, .int .i64 hh, .int .i64 mi, .int .i64 ss, .int .u64 pI, .int .u64 zI, .int .u32 sI, .int .u64 aI, .bool false] 51)).held (heap_alloc_new w2 _) id) id; obtain ⟨⟨c0, c1, c2, c3, c4, c5⟩, c6, c7, c8, c9, c10, c11⟩ := row12 hb3; have HB3 := Lib.hid hb3; have HT3 := Lib.hid (((HT2.out.alloc _).alloc _).trans ht3); clear hb3 ht3))
  go_quiet (fail)
  go_wp2_with (go_at_call 32; refine (HB.out _).mono ?_; rintro e w4 ⟨rfl, ht4⟩; clear c0 c1 c2 c3 c4 c5 c6 c7 c8 c9 c10 c11; have ht4' := ((Touch.refl (fun _ => False) w3).drewN _).trans ht4; have hb4 := ht4'.held HB3.out id; obtain ⟨⟨c0, c1, c2, c3, c4, c5⟩, c6, c7, c8, c9, c10, c11⟩ := row12 hb4; have HB4 := Lib.hid hb4; have HT4 := Lib.hid (HT3.out.trans ht4'); clear hb4 ht4 ht4')
  refine wp_abs (fun wx => wx.heap[w2.heap.size]? = some (.cells #[.string nm, .int .i64 y, .int .i64 mo, .int .i64 dd, .int .i64 hh, .int .i64 mi, .int .i64 ss, .int .u64 pI, .int .u64 zI, .int .u32 sI, .int .u64 aI, .bool false] 48) ∧ Touch (fun _ => False) w wx) ⟨HB4.out, HT4.out⟩ ?_
  clear c0 c1 c2 c3 c4 c5 c6 c7 c8 c9 c10 c11 HB3 HT3 HB4 HT4
  rintro wx ⟨hbx, ht⟩
  obtain ⟨⟨c0, c1, c2, c3, c4, c5⟩, c6, c7, c8, c9, c10, c11⟩ := row12w hbx
  have HX := Lib.hid ht
  clear hbx ht
  refine wp_region_quiet_touch (fun _ => False) (by kernel_rfl) (by kernel_rfl) ?_
  repeat (go_big_quiet_step (first
    | (go_at_call 29; exact quiet_touch (HL.out _ (hT.kept (HX.out.trans (Wd.ok _)))))
    | (go_at_call 36; exact quiet_touch (HD.out _ (hT.kept (HX.out.trans (Wd.ok _)))))
    | (go_at_call 30; exact quiet_touch (HC.out _ (hT.kept (HX.out.trans (Wd.ok _)))))))
  refine wpQuiet_nil ?_
  intro _ hw1
  obtain ⟨T, hw2⟩ := hw1
  subst hw2
  clear c0 c1 c2 c3 c4 c5 c6 c7 c8 c9 c10 c11
  go_wp2
  go_ret
  exact ⟨rfl, HX.out.trans T.ok⟩

set_option maxHeartbeats 2000000 in
theorem sizes_101 (n : ByteArray) (tm : Int) (p z s a : Nat) (b : Bool) (t : Tim) (hn : n.size ≤ 9223372036854775807) (hOf : ∀ W, Calls Tryd.prog 55 #[.int .i64 tm] W fun e w' => e = .returned (.tuple #[t.v, .bool b]) ∧ Touch (fun _ => False) W w') (nm : ByteArray) (hnm : n.extract 0 (min n.size 300) = nm)
    (ho : HdOk (Hd.mk nm t p z s a true)) (hg : goodH (Hd.mk nm t p z s a true) = true) (hb : bigH (Hd.mk nm t p z s a true) = true) (ha : decide (full32 ≤ a) = false) (w : World) (hT : Tabs w) : Calls Tryd.prog 11 #[argV n tm p z s a true] w fun e w' => e = .returned (.bool true) ∧ Touch (fun _ => False) w w' := by
  have HSP := Lib.hid (fun W (hT : Tabs W) => speaks13_calls W hT)
  have HMD0 := fun W => made_calls n tm p z s a true b t hn hOf W
  rw [hnm] at HMD0
  have HMD := Lib.hid HMD0
  have HG0 := fun W => refGood13_calls (Hd.mk nm t p z s a true) ho W
  rw [hg] at HG0
  have HG := Lib.hid HG0
  have HB := Lib.hid (fun W => big_b true (Hd.mk nm t p z s a true) hb W)
  have HL0 := fun W (hT : Tabs W) => local_calls (Hd.mk nm t p z s a true) ho W hT
  have HD0 := fun W (hT : Tabs W) => descr_calls (Hd.mk nm t p z s a true) ho W hT
  have HC0 := fun W (hT : Tabs W) => central_calls (Hd.mk nm t p z s a true) ho W hT
  rw [show localB (Hd.mk nm t p z s a true) = locB (Hd.mk nm t p z s a true) by unfold localB; rw [hg]; rfl] at HL0
  rw [show centralB (Hd.mk nm t p z s a true) = cenB (Hd.mk nm t p z s a true) by unfold centralB; rw [hg]; rfl] at HC0
  have hns : nm.size ≤ 300 := by rw [← hnm, ByteArray.size_extract]; omega
  have z1 : ((locB (Hd.mk nm t p z s a true)).size : Int) = 30 + (nm.size : Int) + 20 := by rw [locB_size, locE_size, hb]; simp
  have z2 : ((descrB (Hd.mk nm t p z s a true)).size : Int) = 0 := by
    unfold descrB
    rw [hg]
    rfl
  have z3 : ((cenB (Hd.mk nm t p z s a true)).size : Int) = 46 + (nm.size : Int) + 20 := by
    rw [cenB_size, wide_size, hb]
    simp only [if_neg (of_decide_eq_false ha), if_true, Bool.false_eq_true, if_false]
    simp
  have n1 : (((locB (Hd.mk nm t p z s a true)).extract 30 (30 + nm.size)).toList == nm.toList) = true := strEq_t (locB_name (Hd.mk nm t p z s a true))
  have n2 : (((cenB (Hd.mk nm t p z s a true)).extract 46 (46 + nm.size)).toList == nm.toList) = true := strEq_t (cenB_name (Hd.mk nm t p z s a true))
  generalize locB (Hd.mk nm t p z s a true) = LB at *
  generalize descrB (Hd.mk nm t p z s a true) = DB at *
  generalize cenB (Hd.mk nm t p z s a true) = CB at *
  have HL := Lib.hid HL0
  have HD := Lib.hid HD0
  have HC := Lib.hid HC0
  have hga : decide ((4294967294 : Int) < (a : Int)) = false := by rw [← ha, decide_eq_decide]; unfold full32; omega
  clear HMD0 HG0 HL0 HD0 HC0 hOf ho hg hnm hb ha
  obtain ⟨y, mo, dd, hh, mi, ss⟩ := t
  unfold Hd.v Hd.cs argV at *
  simp only at HMD HG HL HD HC HB ⊢
  generalize (p : Int) = pI at *
  generalize (z : Int) = zI at *
  generalize (s : Int) = sI at *
  generalize (a : Int) = aI at *
  have hnsI : (nm.size : Int) ≤ 300 := by omega
  go_enter Tryd.func11, Tryd.ntmps11
  go_wp2_with (first
    | (go_at_call 24; refine (HSP.out _ (hT.kept ((Touch.refl _ _).alloc _))).mono ?_; rintro e w1 ⟨rfl, ht1⟩; have hb1 := ht1.held (heap_alloc_new w _) id; obtain ⟨a0, a1, a2, a3, a4, a5, a6⟩ := row7 hb1; have HT1 := Lib.hid (((Touch.refl (fun _ => False) w).alloc _).trans ht1); clear hb1 ht1)
    | (go_at_call 27; refine (HMD.out _).mono ?_; rintro e w2 ⟨rfl, ht2⟩; have HT2 := Lib.hid (HT1.out.trans ht2); clear ht2 a0 a1 a2 a3 a4 a5 a6)
    | (go_at_call 28; refine (HG.out _).mono ?_; rintro e w3 ⟨rfl, ht3⟩; have hb3 : w3.heap[w2.heap.size]? = some (.cells #[.string nm, .int .i64 y, .int .i64 mo, .int .i64 dd, .int .i64 hh, .int .i64 mi, .int .i64 ss, .int .u64 pI, .int .u64 zI, .int .u32 sI, .int .u64 aI, .bool true] 48) := ht3.held (((Touch.refl (fun _ => False) (w2.alloc (.cells #[.string nm, .int .i64 y, .int .i64 mo, .int .i64 dd, .int .i64 hh, .int .i64 mi, .int .i64 ss, .int .u64 pI, .int .u64 zI, .int .u32 sI, .int .u64 aI, .bool true] 48))).alloc (.cells #[.string nm, .int .i64 y, .int .i64 mo, .int .i64 dd, .int .i64 hh, .int .i64 mi, .int .i64 ss, .int .u64 pI, .int .u64 zI, .int .u32 sI, .int .u64 aI, .bool true] 51)).held (heap_alloc_new w2 _) id) id; obtain ⟨⟨c0, c1, c2, c3, c4, c5⟩, c6, c7, c8, c9, c10, c11⟩ := row12 hb3; have HB3 := Lib.hid hb3; have HT3 := Lib.hid (((HT2.out.alloc _).alloc _).trans ht3); clear hb3 ht3))
  go_quiet (fail)
  go_wp2_with (go_at_call 32; refine (HB.out _).mono ?_; rintro e w4 ⟨rfl, ht4⟩; clear c0 c1 c2 c3 c4 c5 c6 c7 c8 c9 c10 c11; have ht4' := ((Touch.refl (fun _ => False) w3).drewN _).trans ht4; have hb4 := ht4'.held HB3.out id; obtain ⟨⟨c0, c1, c2, c3, c4, c5⟩, c6, c7, c8, c9, c10, c11⟩ := row12 hb4; have HB4 := Lib.hid hb4; have HT4 := Lib.hid (HT3.out.trans ht4'); clear hb4 ht4 ht4')
  refine wp_abs (fun wx => wx.heap[w2.heap.size]? = some (.cells #[.string nm, .int .i64 y, .int .i64 mo, .int .i64 dd, .int .i64 hh, .int .i64 mi, .int .i64 ss, .int .u64 pI, .int .u64 zI, .int .u32 sI, .int .u64 aI, .bool true] 48) ∧ Touch (fun _ => False) w wx) ⟨HB4.out, HT4.out⟩ ?_
  clear c0 c1 c2 c3 c4 c5 c6 c7 c8 c9 c10 c11 HB3 HT3 HB4 HT4
  rintro wx ⟨hbx, ht⟩
  obtain ⟨⟨c0, c1, c2, c3, c4, c5⟩, c6, c7, c8, c9, c10, c11⟩ := row12w hbx
  have HX := Lib.hid ht
  clear hbx ht
  refine wp_region_quiet_touch (fun _ => False) (by kernel_rfl) (by kernel_rfl) ?_
  repeat (go_big_quiet_step (first
    | (go_at_call 29; exact quiet_touch (HL.out _ (hT.kept (HX.out.trans (Wd.ok _)))))
    | (go_at_call 36; exact quiet_touch (HD.out _ (hT.kept (HX.out.trans (Wd.ok _)))))
    | (go_at_call 30; exact quiet_touch (HC.out _ (hT.kept (HX.out.trans (Wd.ok _)))))))
  refine wpQuiet_nil ?_
  intro _ hw1
  obtain ⟨T, hw2⟩ := hw1
  subst hw2
  clear c0 c1 c2 c3 c4 c5 c6 c7 c8 c9 c10 c11
  go_wp2
  go_ret
  exact ⟨rfl, HX.out.trans T.ok⟩

set_option maxHeartbeats 2000000 in
theorem sizes_110 (n : ByteArray) (tm : Int) (p z s a : Nat) (b : Bool) (t : Tim) (hn : n.size ≤ 9223372036854775807) (hOf : ∀ W, Calls Tryd.prog 55 #[.int .i64 tm] W fun e w' => e = .returned (.tuple #[t.v, .bool b]) ∧ Touch (fun _ => False) W w') (nm : ByteArray) (hnm : n.extract 0 (min n.size 300) = nm)
    (ho : HdOk (Hd.mk nm t p z s a false)) (hg : goodH (Hd.mk nm t p z s a false) = true) (hb : bigH (Hd.mk nm t p z s a false) = true) (ha : decide (full32 ≤ a) = true) (w : World) (hT : Tabs w) : Calls Tryd.prog 11 #[argV n tm p z s a false] w fun e w' => e = .returned (.bool true) ∧ Touch (fun _ => False) w w' := by
  have HSP := Lib.hid (fun W (hT : Tabs W) => speaks13_calls W hT)
  have HMD0 := fun W => made_calls n tm p z s a false b t hn hOf W
  rw [hnm] at HMD0
  have HMD := Lib.hid HMD0
  have HG0 := fun W => refGood13_calls (Hd.mk nm t p z s a false) ho W
  rw [hg] at HG0
  have HG := Lib.hid HG0
  have HB := Lib.hid (fun W => big_b true (Hd.mk nm t p z s a false) hb W)
  have HL0 := fun W (hT : Tabs W) => local_calls (Hd.mk nm t p z s a false) ho W hT
  have HD0 := fun W (hT : Tabs W) => descr_calls (Hd.mk nm t p z s a false) ho W hT
  have HC0 := fun W (hT : Tabs W) => central_calls (Hd.mk nm t p z s a false) ho W hT
  rw [show localB (Hd.mk nm t p z s a false) = locB (Hd.mk nm t p z s a false) by unfold localB; rw [hg]; rfl] at HL0
  rw [show centralB (Hd.mk nm t p z s a false) = cenB (Hd.mk nm t p z s a false) by unfold centralB; rw [hg]; rfl] at HC0
  have hns : nm.size ≤ 300 := by rw [← hnm, ByteArray.size_extract]; omega
  have z1 : ((locB (Hd.mk nm t p z s a false)).size : Int) = 30 + (nm.size : Int) + 20 := by rw [locB_size, locE_size, hb]; simp
  have z2 : ((descrB (Hd.mk nm t p z s a false)).size : Int) = 24 := by
    unfold descrB
    rw [hg]
    show ((desB _).size : Int) = 24
    rw [desB_size, hb]
    rfl
  have z3 : ((cenB (Hd.mk nm t p z s a false)).size : Int) = 46 + (nm.size : Int) + 28 := by
    rw [cenB_size, wide_size, hb]
    simp only [if_pos (of_decide_eq_true ha), if_true, Bool.false_eq_true, if_false]
    simp
  have n1 : (((locB (Hd.mk nm t p z s a false)).extract 30 (30 + nm.size)).toList == nm.toList) = true := strEq_t (locB_name (Hd.mk nm t p z s a false))
  have n2 : (((cenB (Hd.mk nm t p z s a false)).extract 46 (46 + nm.size)).toList == nm.toList) = true := strEq_t (cenB_name (Hd.mk nm t p z s a false))
  generalize locB (Hd.mk nm t p z s a false) = LB at *
  generalize descrB (Hd.mk nm t p z s a false) = DB at *
  generalize cenB (Hd.mk nm t p z s a false) = CB at *
  have HL := Lib.hid HL0
  have HD := Lib.hid HD0
  have HC := Lib.hid HC0
  have hga : decide ((4294967294 : Int) < (a : Int)) = true := by rw [← ha, decide_eq_decide]; unfold full32; omega
  clear HMD0 HG0 HL0 HD0 HC0 hOf ho hg hnm hb ha
  obtain ⟨y, mo, dd, hh, mi, ss⟩ := t
  unfold Hd.v Hd.cs argV at *
  simp only at HMD HG HL HD HC HB ⊢
  generalize (p : Int) = pI at *
  generalize (z : Int) = zI at *
  generalize (s : Int) = sI at *
  generalize (a : Int) = aI at *
  have hnsI : (nm.size : Int) ≤ 300 := by omega
  go_enter Tryd.func11, Tryd.ntmps11
  go_wp2_with (first
    | (go_at_call 24; refine (HSP.out _ (hT.kept ((Touch.refl _ _).alloc _))).mono ?_; rintro e w1 ⟨rfl, ht1⟩; have hb1 := ht1.held (heap_alloc_new w _) id; obtain ⟨a0, a1, a2, a3, a4, a5, a6⟩ := row7 hb1; have HT1 := Lib.hid (((Touch.refl (fun _ => False) w).alloc _).trans ht1); clear hb1 ht1)
    | (go_at_call 27; refine (HMD.out _).mono ?_; rintro e w2 ⟨rfl, ht2⟩; have HT2 := Lib.hid (HT1.out.trans ht2); clear ht2 a0 a1 a2 a3 a4 a5 a6)
    | (go_at_call 28; refine (HG.out _).mono ?_; rintro e w3 ⟨rfl, ht3⟩; have hb3 : w3.heap[w2.heap.size]? = some (.cells #[.string nm, .int .i64 y, .int .i64 mo, .int .i64 dd, .int .i64 hh, .int .i64 mi, .int .i64 ss, .int .u64 pI, .int .u64 zI, .int .u32 sI, .int .u64 aI, .bool false] 48) := ht3.held (((Touch.refl (fun _ => False) (w2.alloc (.cells #[.string nm, .int .i64 y, .int .i64 mo, .int .i64 dd, .int .i64 hh, .int .i64 mi, .int .i64 ss, .int .u64 pI, .int .u64 zI, .int .u32 sI, .int .u64 aI, .bool false] 48))).alloc (.cells #[.string nm, .int .i64 y, .int .i64 mo, .int .i64 dd, .int .i64 hh, .int .i64 mi, .int .i64 ss, .int .u64 pI, .int .u64 zI, .int .u32 sI, .int .u64 aI, .bool false] 51)).held (heap_alloc_new w2 _) id) id; obtain ⟨⟨c0, c1, c2, c3, c4, c5⟩, c6, c7, c8, c9, c10, c11⟩ := row12 hb3; have HB3 := Lib.hid hb3; have HT3 := Lib.hid (((HT2.out.alloc _).alloc _).trans ht3); clear hb3 ht3))
  go_quiet (fail)
  go_wp2_with (go_at_call 32; refine (HB.out _).mono ?_; rintro e w4 ⟨rfl, ht4⟩; clear c0 c1 c2 c3 c4 c5 c6 c7 c8 c9 c10 c11; have ht4' := ((Touch.refl (fun _ => False) w3).drewN _).trans ht4; have hb4 := ht4'.held HB3.out id; obtain ⟨⟨c0, c1, c2, c3, c4, c5⟩, c6, c7, c8, c9, c10, c11⟩ := row12 hb4; have HB4 := Lib.hid hb4; have HT4 := Lib.hid (HT3.out.trans ht4'); clear hb4 ht4 ht4')
  refine wp_abs (fun wx => wx.heap[w2.heap.size]? = some (.cells #[.string nm, .int .i64 y, .int .i64 mo, .int .i64 dd, .int .i64 hh, .int .i64 mi, .int .i64 ss, .int .u64 pI, .int .u64 zI, .int .u32 sI, .int .u64 aI, .bool false] 48) ∧ Touch (fun _ => False) w wx) ⟨HB4.out, HT4.out⟩ ?_
  clear c0 c1 c2 c3 c4 c5 c6 c7 c8 c9 c10 c11 HB3 HT3 HB4 HT4
  rintro wx ⟨hbx, ht⟩
  obtain ⟨⟨c0, c1, c2, c3, c4, c5⟩, c6, c7, c8, c9, c10, c11⟩ := row12w hbx
  have HX := Lib.hid ht
  clear hbx ht
  refine wp_region_quiet_touch (fun _ => False) (by kernel_rfl) (by kernel_rfl) ?_
  repeat (go_big_quiet_step (first
    | (go_at_call 29; exact quiet_touch (HL.out _ (hT.kept (HX.out.trans (Wd.ok _)))))
    | (go_at_call 36; exact quiet_touch (HD.out _ (hT.kept (HX.out.trans (Wd.ok _)))))
    | (go_at_call 30; exact quiet_touch (HC.out _ (hT.kept (HX.out.trans (Wd.ok _)))))))
  refine wpQuiet_nil ?_
  intro _ hw1
  obtain ⟨T, hw2⟩ := hw1
  subst hw2
  clear c0 c1 c2 c3 c4 c5 c6 c7 c8 c9 c10 c11
  go_wp2
  go_ret
  exact ⟨rfl, HX.out.trans T.ok⟩

set_option maxHeartbeats 2000000 in
theorem sizes_111 (n : ByteArray) (tm : Int) (p z s a : Nat) (b : Bool) (t : Tim) (hn : n.size ≤ 9223372036854775807) (hOf : ∀ W, Calls Tryd.prog 55 #[.int .i64 tm] W fun e w' => e = .returned (.tuple #[t.v, .bool b]) ∧ Touch (fun _ => False) W w') (nm : ByteArray) (hnm : n.extract 0 (min n.size 300) = nm)
    (ho : HdOk (Hd.mk nm t p z s a true)) (hg : goodH (Hd.mk nm t p z s a true) = true) (hb : bigH (Hd.mk nm t p z s a true) = true) (ha : decide (full32 ≤ a) = true) (w : World) (hT : Tabs w) : Calls Tryd.prog 11 #[argV n tm p z s a true] w fun e w' => e = .returned (.bool true) ∧ Touch (fun _ => False) w w' := by
  have HSP := Lib.hid (fun W (hT : Tabs W) => speaks13_calls W hT)
  have HMD0 := fun W => made_calls n tm p z s a true b t hn hOf W
  rw [hnm] at HMD0
  have HMD := Lib.hid HMD0
  have HG0 := fun W => refGood13_calls (Hd.mk nm t p z s a true) ho W
  rw [hg] at HG0
  have HG := Lib.hid HG0
  have HB := Lib.hid (fun W => big_b true (Hd.mk nm t p z s a true) hb W)
  have HL0 := fun W (hT : Tabs W) => local_calls (Hd.mk nm t p z s a true) ho W hT
  have HD0 := fun W (hT : Tabs W) => descr_calls (Hd.mk nm t p z s a true) ho W hT
  have HC0 := fun W (hT : Tabs W) => central_calls (Hd.mk nm t p z s a true) ho W hT
  rw [show localB (Hd.mk nm t p z s a true) = locB (Hd.mk nm t p z s a true) by unfold localB; rw [hg]; rfl] at HL0
  rw [show centralB (Hd.mk nm t p z s a true) = cenB (Hd.mk nm t p z s a true) by unfold centralB; rw [hg]; rfl] at HC0
  have hns : nm.size ≤ 300 := by rw [← hnm, ByteArray.size_extract]; omega
  have z1 : ((locB (Hd.mk nm t p z s a true)).size : Int) = 30 + (nm.size : Int) + 20 := by rw [locB_size, locE_size, hb]; simp
  have z2 : ((descrB (Hd.mk nm t p z s a true)).size : Int) = 0 := by
    unfold descrB
    rw [hg]
    rfl
  have z3 : ((cenB (Hd.mk nm t p z s a true)).size : Int) = 46 + (nm.size : Int) + 28 := by
    rw [cenB_size, wide_size, hb]
    simp only [if_pos (of_decide_eq_true ha), if_true, Bool.false_eq_true, if_false]
    simp
  have n1 : (((locB (Hd.mk nm t p z s a true)).extract 30 (30 + nm.size)).toList == nm.toList) = true := strEq_t (locB_name (Hd.mk nm t p z s a true))
  have n2 : (((cenB (Hd.mk nm t p z s a true)).extract 46 (46 + nm.size)).toList == nm.toList) = true := strEq_t (cenB_name (Hd.mk nm t p z s a true))
  generalize locB (Hd.mk nm t p z s a true) = LB at *
  generalize descrB (Hd.mk nm t p z s a true) = DB at *
  generalize cenB (Hd.mk nm t p z s a true) = CB at *
  have HL := Lib.hid HL0
  have HD := Lib.hid HD0
  have HC := Lib.hid HC0
  have hga : decide ((4294967294 : Int) < (a : Int)) = true := by rw [← ha, decide_eq_decide]; unfold full32; omega
  clear HMD0 HG0 HL0 HD0 HC0 hOf ho hg hnm hb ha
  obtain ⟨y, mo, dd, hh, mi, ss⟩ := t
  unfold Hd.v Hd.cs argV at *
  simp only at HMD HG HL HD HC HB ⊢
  generalize (p : Int) = pI at *
  generalize (z : Int) = zI at *
  generalize (s : Int) = sI at *
  generalize (a : Int) = aI at *
  have hnsI : (nm.size : Int) ≤ 300 := by omega
  go_enter Tryd.func11, Tryd.ntmps11
  go_wp2_with (first
    | (go_at_call 24; refine (HSP.out _ (hT.kept ((Touch.refl _ _).alloc _))).mono ?_; rintro e w1 ⟨rfl, ht1⟩; have hb1 := ht1.held (heap_alloc_new w _) id; obtain ⟨a0, a1, a2, a3, a4, a5, a6⟩ := row7 hb1; have HT1 := Lib.hid (((Touch.refl (fun _ => False) w).alloc _).trans ht1); clear hb1 ht1)
    | (go_at_call 27; refine (HMD.out _).mono ?_; rintro e w2 ⟨rfl, ht2⟩; have HT2 := Lib.hid (HT1.out.trans ht2); clear ht2 a0 a1 a2 a3 a4 a5 a6)
    | (go_at_call 28; refine (HG.out _).mono ?_; rintro e w3 ⟨rfl, ht3⟩; have hb3 : w3.heap[w2.heap.size]? = some (.cells #[.string nm, .int .i64 y, .int .i64 mo, .int .i64 dd, .int .i64 hh, .int .i64 mi, .int .i64 ss, .int .u64 pI, .int .u64 zI, .int .u32 sI, .int .u64 aI, .bool true] 48) := ht3.held (((Touch.refl (fun _ => False) (w2.alloc (.cells #[.string nm, .int .i64 y, .int .i64 mo, .int .i64 dd, .int .i64 hh, .int .i64 mi, .int .i64 ss, .int .u64 pI, .int .u64 zI, .int .u32 sI, .int .u64 aI, .bool true] 48))).alloc (.cells #[.string nm, .int .i64 y, .int .i64 mo, .int .i64 dd, .int .i64 hh, .int .i64 mi, .int .i64 ss, .int .u64 pI, .int .u64 zI, .int .u32 sI, .int .u64 aI, .bool true] 51)).held (heap_alloc_new w2 _) id) id; obtain ⟨⟨c0, c1, c2, c3, c4, c5⟩, c6, c7, c8, c9, c10, c11⟩ := row12 hb3; have HB3 := Lib.hid hb3; have HT3 := Lib.hid (((HT2.out.alloc _).alloc _).trans ht3); clear hb3 ht3))
  go_quiet (fail)
  go_wp2_with (go_at_call 32; refine (HB.out _).mono ?_; rintro e w4 ⟨rfl, ht4⟩; clear c0 c1 c2 c3 c4 c5 c6 c7 c8 c9 c10 c11; have ht4' := ((Touch.refl (fun _ => False) w3).drewN _).trans ht4; have hb4 := ht4'.held HB3.out id; obtain ⟨⟨c0, c1, c2, c3, c4, c5⟩, c6, c7, c8, c9, c10, c11⟩ := row12 hb4; have HB4 := Lib.hid hb4; have HT4 := Lib.hid (HT3.out.trans ht4'); clear hb4 ht4 ht4')
  refine wp_abs (fun wx => wx.heap[w2.heap.size]? = some (.cells #[.string nm, .int .i64 y, .int .i64 mo, .int .i64 dd, .int .i64 hh, .int .i64 mi, .int .i64 ss, .int .u64 pI, .int .u64 zI, .int .u32 sI, .int .u64 aI, .bool true] 48) ∧ Touch (fun _ => False) w wx) ⟨HB4.out, HT4.out⟩ ?_
  clear c0 c1 c2 c3 c4 c5 c6 c7 c8 c9 c10 c11 HB3 HT3 HB4 HT4
  rintro wx ⟨hbx, ht⟩
  obtain ⟨⟨c0, c1, c2, c3, c4, c5⟩, c6, c7, c8, c9, c10, c11⟩ := row12w hbx
  have HX := Lib.hid ht
  clear hbx ht
  refine wp_region_quiet_touch (fun _ => False) (by kernel_rfl) (by kernel_rfl) ?_
  repeat (go_big_quiet_step (first
    | (go_at_call 29; exact quiet_touch (HL.out _ (hT.kept (HX.out.trans (Wd.ok _)))))
    | (go_at_call 36; exact quiet_touch (HD.out _ (hT.kept (HX.out.trans (Wd.ok _)))))
    | (go_at_call 30; exact quiet_touch (HC.out _ (hT.kept (HX.out.trans (Wd.ok _)))))))
  refine wpQuiet_nil ?_
  intro _ hw1
  obtain ⟨T, hw2⟩ := hw1
  subst hw2
  clear c0 c1 c2 c3 c4 c5 c6 c7 c8 c9 c10 c11
  go_wp2
  go_ret
  exact ⟨rfl, HX.out.trans T.ok⟩

theorem of_any (tm : Int) (h2 : tm ≤ 9223372036854775807) : ∃ (b : Bool) (t : Tim), ∀ W, Calls Tryd.prog 55 #[.int .i64 tm] W fun e w' => e = .returned (.tuple #[t.v, .bool b]) ∧ Touch (fun _ => False) W w' := by
  by_cases h1 : tm < 0
  · exact ⟨false, Tim.zero, fun W => of_neg tm W h1⟩
  · by_cases h3 : 2019643200 ≤ tm
    · exact ⟨false, Tim.zero, fun W => of_big tm W h3 h2⟩
    · obtain ⟨t, ht, rfl⟩ := num_surj tm (by omega) (by omega)
      exact ⟨true, t, fun W => of_calls t W ht⟩

theorem sizes_calls (n : ByteArray) (tm : Int) (p z s a : Nat) (k : Bool) (hn : n.size ≤ 9223372036854775807) (htm : tm ≤ 9223372036854775807) (hp : p < 18446744073709551616) (hz : z < 18446744073709551616) (hs : s < 4294967296) (ha : a < 18446744073709551616) (w : World) (hT : Tabs w) :
    Calls Tryd.prog 11 #[argV n tm p z s a k] w fun e w' => e = .returned (.bool true) ∧ Touch (fun _ => False) w w' := by
  obtain ⟨b, t, hOf⟩ := of_any tm htm
  have ho : HdOk (Hd.mk (n.extract 0 (min n.size 300)) t p z s a k) := ⟨by show (n.extract 0 (min n.size 300)).size ≤ 1000000; rw [ByteArray.size_extract]; omega, hp, hz, hs, ha⟩
  cases hg : goodH (Hd.mk (n.extract 0 (min n.size 300)) t p z s a k)
  · exact sizes_bad n tm p z s a k b t hn hOf _ rfl ho hg w hT
  · cases hb : bigH (Hd.mk (n.extract 0 (min n.size 300)) t p z s a k) <;> cases hga : decide (full32 ≤ a) <;> cases k
    · exact sizes_000 n tm p z s a b t hn hOf _ rfl ho hg hb hga w hT
    · exact sizes_001 n tm p z s a b t hn hOf _ rfl ho hg hb hga w hT
    · exact sizes_010 n tm p z s a b t hn hOf _ rfl ho hg hb hga w hT
    · exact sizes_011 n tm p z s a b t hn hOf _ rfl ho hg hb hga w hT
    · exact sizes_100 n tm p z s a b t hn hOf _ rfl ho hg hb hga w hT
    · exact sizes_101 n tm p z s a b t hn hOf _ rfl ho hg hb hga w hT
    · exact sizes_110 n tm p z s a b t hn hOf _ rfl ho hg hb hga w hT
    · exact sizes_111 n tm p z s a b t hn hOf _ rfl ho hg hb hga w hT
end Go.Proofs.YthnjpapfombhnaaDoor
