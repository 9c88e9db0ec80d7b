/- The walk of layer 13's statement that any bytes as a header are told just where they are the head's own ones. -/
import Derived.Test.YtdohhmaggeocjaaDoorZipS
namespace Go.Proofs.YtdohhmaggeocjaaDoor
open Go Go.RowKit
set_option maxRecDepth 100000

theorem row_drew {w : World} {b : Nat} {o : Obj} (h : w.heap[b]? = some o) : w.drew.heap[b]? = some o := h
theorem row_alloc {w : World} {b : Nat} {o x : Obj} (h : w.heap[b]? = some o) : (w.alloc x).heap[b]? = some o := ((Touch.refl (fun _ => False) w).alloc x).held h id
/-- Two slices of bytes that were made of two texts. -/
def TwoBuf (w : World) (LB CB : ByteArray) (v11 v12 : Value) (wx : World) : Prop :=
  ∃ G1 q1 G2 q2, v11 = .slice (some ⟨G1, 0, none⟩) LB.size q1 ∧ v12 = .slice (some ⟨G2, 0, none⟩) CB.size q2 ∧ BufAt wx G1 LB.data.toList ∧ BufAt wx G2 CB.data.toList ∧ w.heap.size ≤ G1 ∧ w.heap.size ≤ G2 ∧ LB.size ≤ q1 ∧ CB.size ≤ q2 ∧ Touch (fun _ => False) w wx
theorem BufAt.drewK {w : World} {G : Nat} {e : List UInt8} (h : BufAt w G e) : BufAt w.drew G e := h
theorem BufAt.allocK {w : World} {G : Nat} {e : List UInt8} {o : Obj} (h : BufAt w G e) : BufAt (w.alloc o) G e := h.kept ((Touch.refl (fun _ => False) w).alloc o) id
theorem BufAt.newG {w : World} {G : Nat} {s : ByteArray} {cap : Nat} (h : w.heap.size = G) : BufAt (w.alloc (.cells (bytesRow s cap) 5 ((bytesRow s cap).size, (bytesRow s cap).size + 1))) G s.data.toList := h ▸ BufAt.new w s cap
theorem BufAt.other {w : World} {G : Nat} {e : List UInt8} {p : Addr} {v : Value} (h : BufAt w G e) (hn : G ≠ p.block) : BufAt (w.setCell p v) G e := h.kept (S := fun k => k = p.block) ⟨rfl, rfl, rfl, by simp [World.setCell], fun k _ hk => Below.heap_setCell _ _ _ _ hk⟩ hn
theorem row2 {w : World} {b : Nat} {x0 x1 : Value} {t : TypeId} (h : w.heap[b]? = some (.cells #[x0, x1] t)) : w.cell? ⟨b, 0, none⟩ = some x0 ∧ w.cell? ⟨b, 1, none⟩ = some x1 := by
  refine ⟨?_, ?_⟩
  all_goals (rw [cell_of_row _ _ _ _ _ _ h]; rfl)

set_option maxHeartbeats 1000000 in
theorem zany_bad (n : ByteArray) (tm : Int) (p z s a : Nat) (k b : Bool) (t : Tim) (at_ cut : Int) (bb : UInt8) (hn : n.size ≤ 9223372036854775807) (hOf : ∀ W, Calls Tryd.prog 55 #[.int .i64 tm] W fun e w' => e = .returned (.tuple #[t.v, .bool b]) ∧ Touch (fun _ => False) W w') (nm : ByteArray) (hnm : n.extract 0 (min n.size 300) = nm)
    (ho : HdOk (Hd.mk nm t p z s a k)) (hg : goodH (Hd.mk nm t p z s a k) = false) (w : World) (hT : Tabs w) : Calls Tryd.prog 10 #[argV n tm p z s a k, .agg #[.int .i64 at_, .int .i64 cut], .int .u8 (bb.toNat : Int)] w fun e w' => e = .returned (.bool true) ∧ Touch (fun _ => False) w w' := by
  have HSP := Lib.hid (fun W (hT : Tabs W) => speaks13_calls W hT)
  have HMD0 := fun W => made_calls n tm p z s a k b t hn hOf W
  rw [hnm] at HMD0
  have HMD := Lib.hid HMD0
  have HG0 := fun W => refGood13_calls (Hd.mk nm t p z s a k) ho W
  rw [hg] at HG0
  have HG := Lib.hid HG0
  clear HMD0 HG0 hOf ho hg hnm
  obtain ⟨y, mo, dd, hh, mi, ss⟩ := t
  unfold Hd.v Hd.cs argV at *
  simp only at HMD HG ⊢
  generalize (p : Int) = pI at *
  generalize (z : Int) = zI at *
  generalize (s : Int) = sI at *
  generalize (a : Int) = aI at *
  have hx1 := heap_alloc_new w (.cells #[.string n, .int .i64 tm, .int .u64 pI, .int .u64 zI, .int .u32 sI, .int .u64 aI, .bool k] 44)
  have hx2 := heap_alloc_new (w.alloc (.cells #[.string n, .int .i64 tm, .int .u64 pI, .int .u64 zI, .int .u32 sI, .int .u64 aI, .bool k] 44)) (.cells #[.int .i64 at_, .int .i64 cut] 59)
  rw [alloc_size] at hx2
  have HX1 := Lib.hid (((Touch.refl (fun _ => False) _).alloc (.cells #[.int .i64 at_, .int .i64 cut] 59)).held hx1 id)
  have HX2 := Lib.hid hx2
  clear hx1 hx2
  go_enter Tryd.func10, Tryd.ntmps10
  go_wp2_with (first
    | (go_at_call 24; refine (HSP.out _ (hT.kept (((Touch.refl _ _).alloc _).alloc _))).mono ?_; rintro e w1 ⟨rfl, ht1⟩; have hb1 := ht1.held HX1.out id; have hz1 := ht1.held HX2.out id; obtain ⟨a0, a1, a2, a3, a4, a5, a6⟩ := row7 hb1; obtain ⟨z0, z1⟩ := row2 hz1; have HT1 := Lib.hid ((((Touch.refl (fun _ => False) w).alloc _).alloc _).trans ht1); clear hb1 hz1 ht1 HX1 HX2))
  go_quiet (fail)
  go_wp2_with (first
    | (go_at_call 27; refine (HMD.out _).mono ?_; rintro e w2 ⟨rfl, ht2⟩; have HT2 := Lib.hid ((HT1.out.drewN _).trans ht2); clear ht2 a0 a1 a2 a3 a4 a5 a6 z0 z1)
    | (go_at_call 28; refine (HG.out _).mono ?_; rintro e w3 ⟨rfl, ht3⟩; have hb3 : w3.heap[w2.heap.size]? = some (.cells #[.string nm, .int .i64 y, .int .i64 mo, .int .i64 dd, .int .i64 hh, .int .i64 mi, .int .i64 ss, .int .u64 pI, .int .u64 zI, .int .u32 sI, .int .u64 aI, .bool k] 48) := ht3.held (((Touch.refl (fun _ => False) (w2.alloc (.cells #[.string nm, .int .i64 y, .int .i64 mo, .int .i64 dd, .int .i64 hh, .int .i64 mi, .int .i64 ss, .int .u64 pI, .int .u64 zI, .int .u32 sI, .int .u64 aI, .bool k] 48))).alloc (.cells #[.string nm, .int .i64 y, .int .i64 mo, .int .i64 dd, .int .i64 hh, .int .i64 mi, .int .i64 ss, .int .u64 pI, .int .u64 zI, .int .u32 sI, .int .u64 aI, .bool k] 51)).held (heap_alloc_new w2 _) id) id; obtain ⟨⟨c0, c1, c2, c3, c4, c5⟩, c6, c7, c8, c9, c10, c11⟩ := row12 hb3; have HB3 := Lib.hid hb3; have HT3 := Lib.hid (((HT2.out.alloc _).alloc _).trans ht3); clear hb3 ht3))
  go_ret
  exact ⟨rfl, HT3.out⟩

set_option maxHeartbeats 3000000 in
theorem zany_good (n : ByteArray) (tm : Int) (p z s a : Nat) (k b : Bool) (t : Tim) (at_ cut : Int) (bb : UInt8) (hn : n.size ≤ 9223372036854775807) (hOf : ∀ W, Calls Tryd.prog 55 #[.int .i64 tm] W fun e w' => e = .returned (.tuple #[t.v, .bool b]) ∧ Touch (fun _ => False) W w') (nm : ByteArray) (hnm : n.extract 0 (min n.size 300) = nm)
    (ho : HdOk (Hd.mk nm t p z s a k)) (hg : goodH (Hd.mk nm t p z s a k) = true) (_hat : -9223372036854775808 ≤ at_ ∧ at_ ≤ 9223372036854775807) (_hcut : -9223372036854775808 ≤ cut ∧ cut ≤ 9223372036854775807) (w : World) (hT : Tabs w) : Calls Tryd.prog 10 #[argV n tm p z s a k, .agg #[.int .i64 at_, .int .i64 cut], .int .u8 (bb.toNat : Int)] w fun e w' => e = .returned (.bool true) ∧ Touch (fun _ => False) w w' := by
  have HSP := Lib.hid (fun W (hT : Tabs W) => speaks13_calls W hT)
  have HMD0 := fun W => made_calls n tm p z s a k b t hn hOf W
  rw [hnm] at HMD0
  have HMD := Lib.hid HMD0
  have HG0 := fun W => refGood13_calls (Hd.mk nm t p z s a k) ho W
  rw [hg] at HG0
  have HG := Lib.hid HG0
  have HL0 := fun W (hT : Tabs W) => local_calls (Hd.mk nm t p z s a k) ho W hT
  have HC0 := fun W (hT : Tabs W) => central_calls (Hd.mk nm t p z s a k) ho W hT
  rw [show localB (Hd.mk nm t p z s a k) = locB (Hd.mk nm t p z s a k) by unfold localB; rw [hg]; rfl] at HL0
  rw [show centralB (Hd.mk nm t p z s a k) = cenB (Hd.mk nm t p z s a k) by unfold centralB; rw [hg]; rfl] at HC0
  have hns : nm.size ≤ 300 := by rw [← hnm, ByteArray.size_extract]; omega
  have l1 := locB_size (Hd.mk nm t p z s a k)
  have l2 := locE_size (Hd.mk nm t p z s a k)
  have l3 := cenB_size (Hd.mk nm t p z s a k)
  have l4 := wide_le (Hd.mk nm t p z s a k)
  have l5 : (locE (Hd.mk nm t p z s a k)).size ≤ 20 := by rw [l2]; split <;> omega
  simp only at l1 l3
  have m1 : (locB (Hd.mk nm t p z s a k)).data.toList[2]? = some 3 := loc_mark _
  have m2 : (cenB (Hd.mk nm t p z s a k)).data.toList[2]? = some 1 := cen_mark _
  obtain ⟨LS, hLS⟩ : ∃ L, (locB (Hd.mk nm t p z s a k)).size = L := ⟨_, rfl⟩
  obtain ⟨CS, hCS⟩ : ∃ L, (cenB (Hd.mk nm t p z s a k)).size = L := ⟨_, rfl⟩
  have LS1 : 30 ≤ LS := by omega
  have LS2 : LS ≤ 400 := by omega
  have CS1 : 46 ≤ CS := by omega
  have CS2 : CS ≤ 400 := by omega
  obtain ⟨u1, hu1⟩ : ∃ u, at_.tmod (LS : Int) = u := ⟨_, rfl⟩
  obtain ⟨v1, hv1⟩ : ∃ v : Nat, (u1 + (LS : Int)).tmod (LS : Int) = v := ⟨((u1 + (LS : Int)).tmod (LS : Int)).toNat, by
    have h1 := Int.lt_tmod_of_pos at_ (show (0 : Int) < LS by omega)
    have h3 : 0 ≤ (u1 + (LS : Int)).tmod (LS : Int) := Int.tmod_nonneg _ (by omega)
    omega⟩
  have ub1 : -400 ≤ u1 ∧ u1 ≤ 400 := by
    have h1 := Int.lt_tmod_of_pos at_ (show (0 : Int) < LS by omega)
    have h2 := Int.tmod_lt_of_pos at_ (show (0 : Int) < LS by omega)
    omega
  have vb1 : v1 < LS := by
    have := Int.tmod_lt_of_pos (u1 + (LS : Int)) (show (0 : Int) < LS by omega)
    omega
  obtain ⟨ub1a, ub1b⟩ := ub1
  obtain ⟨u2, hu2⟩ : ∃ u, at_.tmod (CS : Int) = u := ⟨_, rfl⟩
  obtain ⟨v2, hv2⟩ : ∃ v : Nat, (u2 + (CS : Int)).tmod (CS : Int) = v := ⟨((u2 + (CS : Int)).tmod (CS : Int)).toNat, by
    have h1 := Int.lt_tmod_of_pos at_ (show (0 : Int) < CS by omega)
    have h3 : 0 ≤ (u2 + (CS : Int)).tmod (CS : Int) := Int.tmod_nonneg _ (by omega)
    omega⟩
  have ub2 : -400 ≤ u2 ∧ u2 ≤ 400 := by
    have h1 := Int.lt_tmod_of_pos at_ (show (0 : Int) < CS by omega)
    have h2 := Int.tmod_lt_of_pos at_ (show (0 : Int) < CS by omega)
    omega
  have vb2 : v2 < CS := by
    have := Int.tmod_lt_of_pos (u2 + (CS : Int)) (show (0 : Int) < CS by omega)
    omega
  obtain ⟨ub2a, ub2b⟩ := ub2
  obtain ⟨cu3, hcu⟩ : ∃ c : Nat, cut % 4 = c := ⟨(cut % 4).toNat, by omega⟩
  have hcub : cu3 ≤ 3 := by omega
  have hand : bits .and .i64 cut 3 = (cu3 : Int) := by rw [and3_i64]; exact hcu
  have z1 : ((locB (Hd.mk nm t p z s a k)).size : Int) = (LS : Int) := by omega
  have z2 : ((cenB (Hd.mk nm t p z s a k)).size : Int) = (CS : Int) := by omega
  have y1 : (locB (Hd.mk nm t p z s a k)).data.toList.length = LS := hLS
  have y2 : (cenB (Hd.mk nm t p z s a k)).data.toList.length = CS := hCS
  generalize locB (Hd.mk nm t p z s a k) = LB at *
  generalize cenB (Hd.mk nm t p z s a k) = CB at *
  have HL := Lib.hid HL0
  have HC := Lib.hid HC0
  obtain ⟨k1, hk1⟩ : ∃ q, LS - cu3 = q := ⟨_, rfl⟩
  obtain ⟨k2, hk2⟩ : ∃ q, CS - cu3 = q := ⟨_, rfl⟩
  have hk1' : (LS : Int) - (cu3 : Int) = (k1 : Int) := by omega
  have hk2' : (CS : Int) - (cu3 : Int) = (k2 : Int) := by omega
  have hk1l : k1 ≤ LS := by omega
  have hk2l : k2 ≤ CS := by omega
  obtain ⟨PP, hPP⟩ : ∃ x, (⟨((LB.data.toList.set v1 bb).take k1).toArray⟩ : ByteArray) = x := ⟨_, rfl⟩
  obtain ⟨QQ, hQQ⟩ : ∃ x, (⟨((CB.data.toList.set v2 bb).take k2).toArray⟩ : ByteArray) = x := ⟨_, rfl⟩
  have hPs : PP.size = k1 := by rw [← hPP]; show (List.toArray _).size = _; rw [List.size_toArray, List.length_take, List.length_set, y1]; omega
  have hQs : QQ.size = k2 := by rw [← hQQ]; show (List.toArray _).size = _; rw [List.size_toArray, List.length_take, List.length_set, y2]; omega
  have HCL := Lib.hid (rd_caseL PP (by omega))
  have HCC := Lib.hid (rd_caseC QQ (by omega))
  have HQ1 := Lib.hid (fun W (h : Tabs W) => zreadL_calls PP (by omega) W h)
  have HQ2 := Lib.hid (fun W (h : Tabs W) => zreadC_calls QQ (by omega) W h)
  have HS1 := Lib.hid (fun W => refsizeL_calls PP (by omega) W)
  have HS2 := Lib.hid (fun W => refsizeC_calls QQ (by omega) W)
  generalize (rdL PP).1 = GH at *
  generalize (rdL PP).2 = GR at *
  generalize szM sgnL 30 26 PP = GZ at *
  generalize (rdC QQ).1 = FH at *
  generalize (rdC QQ).2 = FR at *
  generalize szM sgnC 46 28 QQ = FZ at *
  have HCV1 := Lib.hid (fun (W : World) (G cap : Nat) (h : BufAt W G (LB.data.toList.set v1 bb)) => (run_convert_buf (cap := cap) h (k := k1) (by rw [List.length_set]; omega)).trans (by rw [hPP]))
  have HCV2 := Lib.hid (fun (W : World) (G cap : Nat) (h : BufAt W G (CB.data.toList.set v2 bb)) => (run_convert_buf (cap := cap) h (k := k2) (by rw [List.length_set]; omega)).trans (by rw [hQQ]))
  have HPs := Lib.hid hPs
  have HQs := Lib.hid hQs
  have M1 := Lib.hid m1
  have M2 := Lib.hid m2
  have Y1 := Lib.hid y1
  have Y2 := Lib.hid y2
  have LSn : ¬ LS = 0 := by omega
  have CSn : ¬ CS = 0 := by omega
  have LS2' : (LS : Int) ≤ 400 := by omega
  have CS2' : (CS : Int) ≤ 400 := by omega
  have vb1' : (v1 : Int) < (LS : Int) := by omega
  have vb2' : (v2 : Int) < (CS : Int) := by omega
  clear HMD0 HG0 HL0 HC0 hOf ho hg hnm l1 l2 l3 l4 l5 hns hLS hCS hPP hQQ hPs hQs m1 m2 y1 y2 hk1 hk2 hcu
  obtain ⟨y, mo, dd, hh, mi, ss⟩ := t
  unfold Hd.v Hd.cs argV at *
  simp only at HMD HG HL HC ⊢
  generalize (p : Int) = pI at *
  generalize (z : Int) = zI at *
  generalize (s : Int) = sI at *
  generalize (a : Int) = aI at *
  have hx1 := heap_alloc_new w (.cells #[.string n, .int .i64 tm, .int .u64 pI, .int .u64 zI, .int .u32 sI, .int .u64 aI, .bool k] 44)
  have hx2 := heap_alloc_new (w.alloc (.cells #[.string n, .int .i64 tm, .int .u64 pI, .int .u64 zI, .int .u32 sI, .int .u64 aI, .bool k] 44)) (.cells #[.int .i64 at_, .int .i64 cut] 59)
  rw [alloc_size] at hx2
  have HX1 := Lib.hid (((Touch.refl (fun _ => False) _).alloc (.cells #[.int .i64 at_, .int .i64 cut] 59)).held hx1 id)
  have HX2 := Lib.hid hx2
  clear hx1 hx2
  go_enter Tryd.func10, Tryd.ntmps10
  go_wp2_with (first
    | (go_at_call 24; refine (HSP.out _ (hT.kept (((Touch.refl _ _).alloc _).alloc _))).mono ?_; rintro e w1 ⟨rfl, ht1⟩; have hb1 := ht1.held HX1.out id; have hz1 := ht1.held HX2.out id; obtain ⟨a0, a1, a2, a3, a4, a5, a6⟩ := row7 hb1; obtain ⟨z0, z1⟩ := row2 hz1; have HT1 := Lib.hid ((((Touch.refl (fun _ => False) w).alloc _).alloc _).trans ht1); clear hb1 hz1 ht1 HX1 HX2))
  go_quiet (fail)
  go_wp2_with (first
    | (go_at_call 27; refine (HMD.out _).mono ?_; rintro e w2 ⟨rfl, ht2⟩; have HT2 := Lib.hid ((HT1.out.drewN _).trans ht2); clear ht2 a0 a1 a2 a3 a4 a5 a6 z0 z1)
    | (go_at_call 28; refine (HG.out _).mono ?_; rintro e w3 ⟨rfl, ht3⟩; have hb3 : w3.heap[w2.heap.size]? = some (.cells #[.string nm, .int .i64 y, .int .i64 mo, .int .i64 dd, .int .i64 hh, .int .i64 mi, .int .i64 ss, .int .u64 pI, .int .u64 zI, .int .u32 sI, .int .u64 aI, .bool k] 48) := ht3.held (((Touch.refl (fun _ => False) (w2.alloc (.cells #[.string nm, .int .i64 y, .int .i64 mo, .int .i64 dd, .int .i64 hh, .int .i64 mi, .int .i64 ss, .int .u64 pI, .int .u64 zI, .int .u32 sI, .int .u64 aI, .bool k] 48))).alloc (.cells #[.string nm, .int .i64 y, .int .i64 mo, .int .i64 dd, .int .i64 hh, .int .i64 mi, .int .i64 ss, .int .u64 pI, .int .u64 zI, .int .u32 sI, .int .u64 aI, .bool k] 51)).held (heap_alloc_new w2 _) id) id; obtain ⟨⟨c0, c1, c2, c3, c4, c5⟩, c6, c7, c8, c9, c10, c11⟩ := row12 hb3; have HB3 := Lib.hid hb3; have HT3 := Lib.hid (((HT2.out.alloc _).alloc _).trans ht3); clear hb3 ht3))
  have hRL := Lib.hid (fun W => run_bytes_of_string (P := Tryd.prog) W 9 31 5 LB Tryd.underlying9 Tryd.underlying31 Tryd.underlying5)
  have hRC := Lib.hid (fun W => run_bytes_of_string (P := Tryd.prog) W 9 31 5 CB Tryd.underlying9 Tryd.underlying31 Tryd.underlying5)
  go_upto_region 7 with fail
  refine wp_abs (fun wx => wx.heap[w2.heap.size]? = some (.cells #[.string nm, .int .i64 y, .int .i64 mo, .int .i64 dd, .int .i64 hh, .int .i64 mi, .int .i64 ss, .int .u64 pI, .int .u64 zI, .int .u32 sI, .int .u64 aI, .bool k] 48) ∧ Touch (fun _ => False) w wx) ⟨HB3.out, HT3.out⟩ ?_
  clear c0 c1 c2 c3 c4 c5 c6 c7 c8 c9 c10 c11 HB3 HT3
  rintro wx ⟨hbx, ht⟩
  obtain ⟨⟨c0, c1, c2, c3, c4, c5⟩, c6, c7, c8, c9, c10, c11⟩ := row12 hbx
  have HBX := Lib.hid hbx
  have HX := Lib.hid ht
  clear hbx ht
  go_cut [11, 12] (fun v11 v12 wy => TwoBuf w LB CB v11 v12 wy)
  case first =>
    have hrl := hRL.out
    have hrc := hRC.out
    go_region_law
      (first
        | (go_simp; go_at_call 29; refine (HL.out _ (hT.kept (by repeat (first | exact HX.out | exact HTL.out | exact HTC.out | refine Touch.drew ?_ | refine Touch.alloc ?_ _)))).mono ?_; rintro e wl ⟨rfl, htl⟩; have hbl := Touch.held (b := w2.heap.size) (o := .cells #[.string nm, .int .i64 y, .int .i64 mo, .int .i64 dd, .int .i64 hh, .int .i64 mi, .int .i64 ss, .int .u64 pI, .int .u64 zI, .int .u32 sI, .int .u64 aI, .bool k] 48) htl (by repeat (first | exact HBX.out | exact HBL.out | exact HBC.out | refine row_drew ?_ | refine row_alloc ?_)) id; obtain ⟨⟨k0, k1_, k2_, k3, k4, k5⟩, k6, k7, k8, k9, k10, k11⟩ := row12 hbl; have hll := row_lt hbl; have HBL := Lib.hid hbl; have HTL : Hid (Touch (fun _ => False) w wl) := Lib.hid (Touch.trans (by repeat (first | exact HX.out | exact HTL.out | exact HTC.out | refine Touch.drew ?_ | refine Touch.alloc ?_ _)) htl); have HTl := Lib.hid htl; clear hbl htl)
        | (go_simp; go_at_call 30; refine (HC.out _ (hT.kept (by repeat (first | exact HX.out | exact HTL.out | exact HTC.out | refine Touch.drew ?_ | refine Touch.alloc ?_ _)))).mono ?_; rintro e wc ⟨rfl, htc⟩; have hbc := Touch.held (b := w2.heap.size) (o := .cells #[.string nm, .int .i64 y, .int .i64 mo, .int .i64 dd, .int .i64 hh, .int .i64 mi, .int .i64 ss, .int .u64 pI, .int .u64 zI, .int .u32 sI, .int .u64 aI, .bool k] 48) htc (by repeat (first | exact HBX.out | exact HBL.out | exact HBC.out | refine row_drew ?_ | refine row_alloc ?_)) id; obtain ⟨⟨l0, l1, l2, l3, l4, l5⟩, l6, l7, l8, l9, l10, l11⟩ := row12 hbc; have hlc := row_lt hbc; have HBC := Lib.hid hbc; have HTC : Hid (Touch (fun _ => False) w wc) := Lib.hid (Touch.trans (by repeat (first | exact HX.out | exact HTL.out | exact HTC.out | refine Touch.drew ?_ | refine Touch.alloc ?_ _)) htc); have HTc := Lib.hid htc; clear hbc htc))
    all_goals
      go_wp2_with fail
      go_meet
      refine ⟨_, _, _, _, rfl, rfl, ?_, ?_, ?_, ?_, grownCap_ge _ _ _ _, grownCap_ge _ _ _ _, ?_⟩
      · repeat (first | ((with_reducible refine BufAt.newG ?_); first | (with_reducible rfl) | (simp; done)) | (with_reducible refine BufAt.drewK ?_) | (with_reducible refine BufAt.allocK ?_) | (with_reducible refine BufAt.kept ?_ HTc.out id) | (with_reducible refine BufAt.kept ?_ HTl.out id))
      · repeat (first | ((with_reducible refine BufAt.newG ?_); first | (with_reducible rfl) | (simp; done)) | (with_reducible refine BufAt.drewK ?_) | (with_reducible refine BufAt.allocK ?_) | (with_reducible refine BufAt.kept ?_ HTc.out id) | (with_reducible refine BufAt.kept ?_ HTl.out id))
      · have h1 := HTL.out.size
        have h2 := HTC.out.size
        omega
      · have h1 := HTL.out.size
        have h2 := HTC.out.size
        omega
      · repeat (first | (with_reducible exact HTC.out) | (with_reducible exact HTL.out) | (with_reducible refine Touch.drew ?_) | (with_reducible refine Touch.alloc ?_ _))
  case rest =>
    obtain ⟨G1, q1, G2, q2, rfl, rfl, hB1, hB2, hG1, hG2, hQ1, hQ2, hTy⟩ := hcut
    have hne := hB1.ne hB2 2 3 1 M1.out M2.out (by decide)
    have hne' : ¬ G2 = G1 := fun e => hne e.symm
    have hx1 := hB1.cell (j := v1) (by have := Y1.out; omega)
    have hx2 := hB2.cell (j := v2) (by have := Y2.out; omega)
    have hf1 := hB1.free (j := v1) (by have := Y1.out; omega)
    have hf2 := hB2.free (j := v2) (by have := Y2.out; omega)
    have HB1 := Lib.hid hB1
    have HB2 := Lib.hid hB2
    have HTY := Lib.hid hTy
    clear hB1 hB2 hTy HX HBX c0 c1 c2 c3 c4 c5 c6 c7 c8 c9 c10 c11
    go_upto_region 10 with fail
    refine wp_abs (fun wz => BufAt wz G1 (LB.data.toList.set v1 bb) ∧ BufAt wz G2 (CB.data.toList.set v2 bb) ∧ Touch (fun _ => False) w wz)
      ⟨(HB1.out.set v1 bb).other hne, (HB2.out.other hne').set v2 bb, (HTY.out.setCell (.inr hG1) _).setCell (.inr hG2) _⟩ ?_
    clear hx1 hx2 hf1 hf2 HB1 HB2 HTY hne hne'
    rintro wz ⟨hB1, hB2, hTz⟩
    have hcv1 : ∀ nq, (convert 31 9 (.slice (some ⟨G1, 0, none⟩) k1 q1)).run Tryd.prog (wz.drewN nq) = .ok (.string PP) (wz.drewN nq) := fun nq => HCV1.out _ _ _ (hB1.kept ((Touch.refl (fun _ => False) _).drewN nq) id)
    have hcv2 : ∀ nq, (convert 31 9 (.slice (some ⟨G2, 0, none⟩) k2 q2)).run Tryd.prog (wz.drewN nq) = .ok (.string QQ) (wz.drewN nq) := fun nq => HCV2.out _ _ _ (hB2.kept ((Touch.refl (fun _ => False) _).drewN nq) id)
    have hq1 : (k1 : Int) ≤ (q1 : Int) := by omega
    have hq2 : (k2 : Int) ≤ (q2 : Int) := by omega
    have HTZ := Lib.hid hTz
    clear hB1 hB2 hTz
    go_quiet (fail)
    clear hcv1 hcv2 hq1 hq2
    go_upto_region 13 with (first
      | (go_at_call 31; refine (HQ1.out _ (hT.kept (HTZ.out.drewN _))).mono ?_; rintro e w5 ⟨rfl, ht5⟩; have HT5 := Lib.hid ((HTZ.out.drewN _).trans ht5); clear ht5)
      | (go_at_call 34; refine (HS1.out _).mono ?_; rintro e w6 ⟨rfl, ht6⟩; have hb6 := ht6.held (heap_alloc_new w5 _) id; have HB6 := Lib.hid hb6; have HT6 := Lib.hid ((HT5.out.alloc _).trans ht6); clear ht6 hb6))
    go_cut [128] (fun v128 wz => v128 = .bool false ∧ Touch (fun _ => False) w wz)
    case first =>
      rcases HCL.out with ⟨h1, h2, h3⟩ | ⟨h1, h2, h3⟩ | ⟨N, h1, h2, h3, h4, h5⟩ | ⟨N, h2, h3, h4, h5, h6, h7⟩
      · as_aux_lemma =>
          subst h1 h2 h3
          have hb6 := HB6.out
          unfold zeroH Tim.zero at hb6
          simp only [show ByteArray.empty = (⟨#[]⟩ : ByteArray) from rfl, Int.cast_ofNat_Int] at hb6
          obtain ⟨⟨c0, c1, c2, c3, c4, c5⟩, c6, c7, c8, c9, c10, c11⟩ := row12w hb6
          clear hb6 HB6 HCL
          refine wp_region_quiet_touch (fun _ => False) (by kernel_rfl) (by kernel_rfl) ?_
          repeat (go_big_quiet_step (fail))
          refine wpQuiet_nil ?_
          intro _ hw1
          obtain ⟨T, hw2⟩ := hw1
          subst hw2
          have hfin := HT6.out.trans T.ok
          clear c0 c1 c2 c3 c4 c5 c6 c7 c8 c9 c10 c11
          generalize T.V = wa at *
          go_wp2_with fail
          go_meet
          exact ⟨rfl, hfin⟩
      · as_aux_lemma =>
          subst h1 h2 h3
          have hb6 := HB6.out
          unfold zeroH Tim.zero at hb6
          simp only [show ByteArray.empty = (⟨#[]⟩ : ByteArray) from rfl, Int.cast_ofNat_Int] at hb6
          obtain ⟨⟨c0, c1, c2, c3, c4, c5⟩, c6, c7, c8, c9, c10, c11⟩ := row12w hb6
          clear hb6 HB6 HCL
          refine wp_region_quiet_touch (fun _ => False) (by kernel_rfl) (by kernel_rfl) ?_
          repeat (go_big_quiet_step (fail))
          refine wpQuiet_nil ?_
          intro _ hw1
          obtain ⟨T, hw2⟩ := hw1
          subst hw2
          have hfin := HT6.out.trans T.ok
          clear c0 c1 c2 c3 c4 c5 c6 c7 c8 c9 c10 c11
          generalize T.V = wa at *
          go_wp2_with fail
          go_meet
          exact ⟨rfl, hfin⟩
      · as_aux_lemma =>
          subst h1 h2 h3
          have hb6 := HB6.out
          unfold zeroH Tim.zero at hb6
          simp only [show ByteArray.empty = (⟨#[]⟩ : ByteArray) from rfl, Int.cast_ofNat_Int] at hb6
          obtain ⟨⟨c0, c1, c2, c3, c4, c5⟩, c6, c7, c8, c9, c10, c11⟩ := row12w hb6
          clear hb6 HB6 HCL
          have n0 : ((N : Int) == 0) = false := beq_eq_false_iff_ne.2 (by omega)
          have n1 : ¬ N = 0 := by omega
          have n8 : ((N : Int) != 0) = true := bne_iff_ne.2 (by omega)
          clear h4 h5
          refine wp_region_quiet_touch (fun _ => False) (by kernel_rfl) (by kernel_rfl) ?_
          repeat (go_big_quiet_step (fail))
          refine wpQuiet_nil ?_
          intro _ hw1
          obtain ⟨T, hw2⟩ := hw1
          subst hw2
          have hfin := HT6.out.trans T.ok
          clear c0 c1 c2 c3 c4 c5 c6 c7 c8 c9 c10 c11
          generalize T.V = wa at *
          go_wp2_with fail
          go_meet
          exact ⟨rfl, hfin⟩
      · as_aux_lemma =>
          obtain ⟨gn, ⟨gy, gmo, gd, gh, gmi, gs⟩, gp, gz, gsu, ga, gk⟩ := GH
          have HLG0 := fun W (hT : Tabs W) => local_calls (Hd.mk gn ⟨gy, gmo, gd, gh, gmi, gs⟩ gp gz gsu ga gk) h7 W hT
          rw [h6] at HLG0
          have HLG := Lib.hid HLG0
          subst h2 h3
          have hb6 := HB6.out
          simp only at hb6
          obtain ⟨⟨c0, c1, c2, c3, c4, c5⟩, c6, c7, c8, c9, c10, c11⟩ := row12w hb6
          unfold Hd.v Hd.cs at HLG
          simp only at HLG
          have n0 : decide ((0 : Int) < (N : Int)) = true := by apply decide_eq_true; omega
          have n1 : decide ((N : Int) ≤ 0) = false := by apply decide_eq_false; omega
          have n2 : decide ((N : Int) < 0) = false := by apply decide_eq_false; omega
          have n3 : ((N : Int) == 0) = false := beq_eq_false_iff_ne.2 (by omega)
          have n4 : ¬ N = 0 := by omega
          have n8 : ((N : Int) != 0) = true := bne_iff_ne.2 (by omega)
          have n5 : 0 < N := by omega
          have n6 : (N : Int) ≤ (PP.size : Int) := by omega
          have n7 : (0 : Int) ≤ (N : Int) := by omega
          clear HLG0 h4 h5 h6 h7 hb6 HB6 HCL
          refine wp_region_quiet_touch (fun _ => False) (by kernel_rfl) (by kernel_rfl) ?_
          repeat (go_big_quiet_step ((first
            | (go_at_call 29; exact quiet_touch (HLG.out _ (hT.kept (HT6.out.trans (Wd.ok _))))))))
          refine wpQuiet_nil ?_
          intro _ hw1
          obtain ⟨T, hw2⟩ := hw1
          subst hw2
          have hfin := HT6.out.trans T.ok
          clear c0 c1 c2 c3 c4 c5 c6 c7 c8 c9 c10 c11
          generalize T.V = wa at *
          go_wp2_with fail
          go_meet
          exact ⟨rfl, hfin⟩
    case rest =>
      obtain ⟨rfl, hTr⟩ := hcut
      rename_i wr
      have HTR := Lib.hid hTr
      clear hTr HB6 HT6 HCL HQ1 HS1
      go_upto_region 17 with (first
        | (go_at_call 33; refine (HQ2.out _ (hT.kept HTR.out)).mono ?_; rintro e w7 ⟨rfl, ht7⟩; have HT7 := Lib.hid (HTR.out.trans ht7); clear ht7)
        | (go_at_call 34; refine (HS2.out _).mono ?_; rintro e w8 ⟨rfl, ht8⟩; have hb8 := ht8.held (heap_alloc_new w7 _) id; have HB8 := Lib.hid hb8; have HT8 := Lib.hid ((HT7.out.alloc _).trans ht8); clear ht8 hb8))
      rcases HCC.out with ⟨h1, h2, h3⟩ | ⟨h1, h2, h3⟩ | ⟨N, h1, h2, h3, h4, h5⟩ | ⟨N, h2, h3, h4, h5, h6, h7⟩
      · as_aux_lemma =>
          subst h1 h2 h3
          have hb6 := HB8.out
          unfold zeroH Tim.zero at hb6
          simp only [show ByteArray.empty = (⟨#[]⟩ : ByteArray) from rfl, Int.cast_ofNat_Int] at hb6
          obtain ⟨⟨c0, c1, c2, c3, c4, c5⟩, c6, c7, c8, c9, c10, c11⟩ := row12w hb6
          clear hb6 HB8 HCC
          refine wp_region_quiet_touch (fun _ => False) (by kernel_rfl) (by kernel_rfl) ?_
          repeat (go_big_quiet_step (fail))
          refine wpQuiet_nil ?_
          intro _ hw1
          obtain ⟨T, hw2⟩ := hw1
          subst hw2
          have hfin := HT8.out.trans T.ok
          clear c0 c1 c2 c3 c4 c5 c6 c7 c8 c9 c10 c11
          generalize T.V = wa at *
          go_wp2
          go_ret
          exact ⟨rfl, hfin⟩
      · as_aux_lemma =>
          subst h1 h2 h3
          have hb6 := HB8.out
          unfold zeroH Tim.zero at hb6
          simp only [show ByteArray.empty = (⟨#[]⟩ : ByteArray) from rfl, Int.cast_ofNat_Int] at hb6
          obtain ⟨⟨c0, c1, c2, c3, c4, c5⟩, c6, c7, c8, c9, c10, c11⟩ := row12w hb6
          clear hb6 HB8 HCC
          refine wp_region_quiet_touch (fun _ => False) (by kernel_rfl) (by kernel_rfl) ?_
          repeat (go_big_quiet_step (fail))
          refine wpQuiet_nil ?_
          intro _ hw1
          obtain ⟨T, hw2⟩ := hw1
          subst hw2
          have hfin := HT8.out.trans T.ok
          clear c0 c1 c2 c3 c4 c5 c6 c7 c8 c9 c10 c11
          generalize T.V = wa at *
          go_wp2
          go_ret
          exact ⟨rfl, hfin⟩
      · as_aux_lemma =>
          subst h1 h2 h3
          have hb6 := HB8.out
          unfold zeroH Tim.zero at hb6
          simp only [show ByteArray.empty = (⟨#[]⟩ : ByteArray) from rfl, Int.cast_ofNat_Int] at hb6
          obtain ⟨⟨c0, c1, c2, c3, c4, c5⟩, c6, c7, c8, c9, c10, c11⟩ := row12w hb6
          clear hb6 HB8 HCC
          have n0 : ((N : Int) == 0) = false := beq_eq_false_iff_ne.2 (by omega)
          have n1 : ¬ N = 0 := by omega
          have n8 : ((N : Int) != 0) = true := bne_iff_ne.2 (by omega)
          clear h4 h5
          refine wp_region_quiet_touch (fun _ => False) (by kernel_rfl) (by kernel_rfl) ?_
          repeat (go_big_quiet_step (fail))
          refine wpQuiet_nil ?_
          intro _ hw1
          obtain ⟨T, hw2⟩ := hw1
          subst hw2
          have hfin := HT8.out.trans T.ok
          clear c0 c1 c2 c3 c4 c5 c6 c7 c8 c9 c10 c11
          generalize T.V = wa at *
          go_wp2
          go_ret
          exact ⟨rfl, hfin⟩
      · as_aux_lemma =>
          have hgd := own_good h6 h4 h5
          obtain ⟨gn, ⟨gy, gmo, gd, gh, gmi, gs⟩, gp, gz, gsu, ga, gk⟩ := FH
          have HLG0 := fun W (hT : Tabs W) => central_calls (Hd.mk gn ⟨gy, gmo, gd, gh, gmi, gs⟩ gp gz gsu ga gk) h7 W hT
          rw [h6] at HLG0
          have HLG := Lib.hid HLG0
          have HGG := Lib.hid (fun W (hT : Tabs W) => zgood_b _ (Hd.mk gn ⟨gy, gmo, gd, gh, gmi, gs⟩ gp gz gsu ga gk) h7 hgd W hT)
          subst h2 h3
          have hb6 := HB8.out
          simp only at hb6
          obtain ⟨⟨c0, c1, c2, c3, c4, c5⟩, c6, c7, c8, c9, c10, c11⟩ := row12w hb6
          unfold Hd.v Hd.cs at HLG HGG
          simp only at HLG HGG
          have n0 : decide ((0 : Int) < (N : Int)) = true := by apply decide_eq_true; omega
          have n1 : decide ((N : Int) ≤ 0) = false := by apply decide_eq_false; omega
          have n2 : decide ((N : Int) < 0) = false := by apply decide_eq_false; omega
          have n3 : ((N : Int) == 0) = false := beq_eq_false_iff_ne.2 (by omega)
          have n4 : ¬ N = 0 := by omega
          have n8 : ((N : Int) != 0) = true := bne_iff_ne.2 (by omega)
          have n5 : 0 < N := by omega
          have n6 : (N : Int) ≤ (QQ.size : Int) := by omega
          have n7 : (0 : Int) ≤ (N : Int) := by omega
          clear HLG0 hgd h4 h5 h6 h7 hb6 HB8 HCC
          refine wp_region_quiet_touch (fun _ => False) (by kernel_rfl) (by kernel_rfl) ?_
          repeat (go_big_quiet_step ((first
            | (go_at_call 30; exact quiet_touch (HLG.out _ (hT.kept (HT8.out.trans (Wd.ok _)))))
            | (go_at_call 35; exact quiet_touch (HGG.out _ (hT.kept (HT8.out.trans (Wd.ok _))))))))
          refine wpQuiet_nil ?_
          intro _ hw1
          obtain ⟨T, hw2⟩ := hw1
          subst hw2
          have hfin := HT8.out.trans T.ok
          clear c0 c1 c2 c3 c4 c5 c6 c7 c8 c9 c10 c11
          generalize T.V = wa at *
          go_wp2
          go_ret
          exact ⟨rfl, hfin⟩

theorem zany_calls (n : ByteArray) (tm : Int) (p z s a : Nat) (k : Bool) (at_ cut : Int) (q : Nat) (hq : q < 256) (hn : n.size ≤ 9223372036854775807) (htm : tm ≤ 9223372036854775807) (hp : p < 18446744073709551616) (hz : z < 18446744073709551616) (hs : s < 4294967296) (ha : a < 18446744073709551616) (hat : -9223372036854775808 ≤ at_ ∧ at_ ≤ 9223372036854775807) (hcut : -9223372036854775808 ≤ cut ∧ cut ≤ 9223372036854775807) (w : World) (hT : Tabs w) :
    Calls Tryd.prog 10 #[argV n tm p z s a k, .agg #[.int .i64 at_, .int .i64 cut], .int .u8 (q : Int)] w fun e w' => e = .returned (.bool true) ∧ Touch (fun _ => False) w w' := by
  obtain ⟨bb, rfl⟩ : ∃ bb : UInt8, q = bb.toNat := ⟨UInt8.ofNat q, by rw [UInt8.toNat_ofNat_of_lt' hq]⟩
  obtain ⟨b, t, hOf⟩ := of_anyB tm htm
  have ho : HdOk (Hd.mk (n.extract 0 (min n.size 300)) t p z s a k) := ⟨by show (n.extract 0 (min n.size 300)).size ≤ 1000000; rw [ByteArray.size_extract]; omega, hp, hz, hs, ha⟩
  cases hg : goodH (Hd.mk (n.extract 0 (min n.size 300)) t p z s a k)
  · exact zany_bad n tm p z s a k b t at_ cut bb hn hOf _ rfl ho hg w hT
  · exact zany_good n tm p z s a k b t at_ cut bb hn hOf _ rfl ho hg hat hcut w hT
end Go.Proofs.YtdohhmaggeocjaaDoor
