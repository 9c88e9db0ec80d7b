/- Contract of package zip: what a central header tells. -/
import Derived.Test.YtdohhmaggeocjaaDoorZipI
namespace Go.Proofs.YtdohhmaggeocjaaDoor
open Go Go.RowKit
set_option maxRecDepth 100000

/-- What behind an extra field's head. -/
theorem cut_new {w1 : World} {b : Nat} {o o12 : Obj} (h : w1.heap[b]? = some o12) : (w1.alloc o).drew.heap[w1.heap.size]? = some o ∧ (w1.alloc o).drew.heap[b]? = some o12 := ⟨heap_alloc_new w1 o, ((Touch.refl (fun _ => False) w1).alloc o).held h id⟩
def xW (X : ByteArray) : ByteArray := X.extract (min 4 X.size) X.size

set_option maxHeartbeats 2000000 in
theorem tellCentral_00 (F X : ByteArray) (d n c s p z a : Nat) (hF : F.size = 46) (hX : X.size ≤ 1000000) (hd : gN (F.extract 14 16) = d) (hn : gN (F.extract 12 14) = n) (hc : gN (F.extract 10 12) = c)
    (hs : gN (F.extract 16 20) = s) (hp : gN (F.extract 20 24) = p) (hz : gN (F.extract 24 28) = z) (ha : gN (F.extract 42 46) = a) (cz : z ≠ full32) (ca : a ≠ full32) (w : World) :
    Calls Tryd.prog 63 #[.string F, .string X] w fun e w' => e = .returned (Hd.v ⟨ByteArray.empty, uT d n, p, z, s, a, !((c : Int) == 8)⟩) ∧ Touch (fun _ => False) w w' := by
  have hsz : (F.extract 8 F.size).size = 38 := by rw [ByteArray.size_extract]; omega
  have HM := Lib.hid (fun W => tellManner_calls (F.extract 8 F.size) d n c (by omega) (by omega)
    (by rw [ext_ext _ _ _ _ _ (by omega)]; exact hd) (by rw [ext_ext _ _ _ _ _ (by omega)]; exact hn) (by rw [hsz, ext_ext _ 2 38 _ _ (by omega), ext_ext _ _ _ _ _ (by omega)]; exact hc) W)
  have Hs := Lib.hid (fun W => zget_calls (F.extract 16 20) s hs (by rw [ByteArray.size_extract]; omega) W)
  have Hp := Lib.hid (fun W => zget_calls (F.extract 20 24) p hp (by rw [ByteArray.size_extract]; omega) W)
  have Hz := Lib.hid (fun W => zget_calls (F.extract 24 28) z hz (by rw [ByteArray.size_extract]; omega) W)
  have Ha := Lib.hid (fun W => zget_calls (F.extract 42 46) a ha (by rw [ByteArray.size_extract]; omega) W)
  have bs : s < 256 ^ 4 := by rw [← hs]; exact gN_lt _ _ (by rw [ByteArray.size_extract]; omega)
  have hF' : (F.size : Int) = 46 := by omega
  have h46 : (46 : Int) ≤ (F.size : Int) := by omega
  have hws : IntKind.u32.wrap (s : Int) = (s : Int) := by rw [IntKind.wrap_u32]; omega
  obtain ⟨k, hk⟩ : ∃ k, k = min 4 X.size := ⟨_, rfl⟩
  have hk1 : min (4 : Int) (X.size : Int) = (k : Int) := by omega
  have hk2 : min (X.size : Int) 4 = (k : Int) := by omega
  have hk3 : (if (X.size : Int) < 4 then (X.size : Int) else 4) = (k : Int) := by split <;> omega
  have hk0 : (0 : Int) ≤ (k : Int) := by omega
  have hkl : (k : Int) ≤ (X.size : Int) := by omega
  have hW : X.extract k X.size = xW X := by unfold xW; rw [hk]
  have hWs : (xW X).size ≤ 1000000 := by unfold xW; rw [ByteArray.size_extract]; omega
  have h2s := fR_size (xW X)
  have h3s := fR_size (fR (xW X))
  clear hd hn hc hs hp hz ha hsz bs hF h2s h3s hk hWs hF'
  unfold Hd.v Hd.cs at *
  generalize uT d n = t at *
  obtain ⟨y, mo, dd, hh, mi, ss⟩ := t
  simp only at *
  generalize (!((c : Int) == 8)) = kb at *
  have hzne : ((z : Int) == 4294967295) = false := by unfold full32 at cz; simp; omega
  have hane : ((a : Int) == 4294967295) = false := by unfold full32 at ca; simp; omega
  clear cz
  clear ca
  generalize xW X = W0 at *
  generalize (s : Int) = sI at *
  generalize (p : Int) = pI at *
  generalize (z : Int) = zI at *
  generalize (a : Int) = aI at *
  go_enter Tryd.func63, Tryd.ntmps63
  go_upto_region 3 with (first
    | (go_at_call 82; refine (HM.out _).mono ?_; rintro e w1 ⟨rfl, ht1⟩; have hb1 := ht1.held (heap_alloc_new w _) id; have hl1 := row_lt hb1; have HB1 := Lib.hid hb1; have HT1 := Lib.hid (((Touch.refl (fun _ => False) w).alloc _).trans ht1); clear hb1 ht1)
    | (go_at_call 84; (with_reducible refine (Hs.out _).mono ?_); rintro e wn ⟨rfl, rfl⟩))
  go_cut [] (fun wx => wx.heap[w1.heap.size]? = some (.cells #[.string ByteArray.empty, .int .i64 y, .int .i64 mo, .int .i64 dd, .int .i64 hh, .int .i64 mi, .int .i64 ss, .int .u64 pI, .int .u64 zI, .int .u32 sI, .int .u64 0, .bool kb] 48) ∧ wx.heap[w.heap.size]? = some (.cells #[.string ⟨#[]⟩, .int .i64 0, .int .i64 0, .int .i64 0, .int .i64 0, .int .i64 0, .int .i64 0, .int .u64 0, .int .u64 0, .int .u32 0, .int .u64 0, .bool false] 48) ∧ Touch (fun _ => False) w wx)
  case first =>
    go_region_with (first
      | (go_at_call 84; (with_reducible refine (Hp.out _).mono ?_); rintro e wn ⟨rfl, rfl⟩)
      | (go_at_call 84; (with_reducible refine (Hz.out _).mono ?_); rintro e wn ⟨rfl, rfl⟩))
    all_goals go_wp2_with fail
    all_goals
      go_meet
      exact ⟨(cut_new HB1.out).1, (cut_new HB1.out).2, (HT1.out.alloc _).drew⟩
  case rest =>
    obtain ⟨hB, hA, hT⟩ := hcut
    obtain ⟨⟨c0, c1, c2, c3, c4, c5⟩, c6, c7, c8, c9, c10, c11⟩ := row12 hA; obtain ⟨⟨d0, d1, d2, d3, d4, d5⟩, d6, d7, d8, d9, d10, d11⟩ := row12 hB; have fA := box_free hA; have fB := box_free hB; have lA := row_lt hA; have lB := row_lt hB
    have hl1' : w.heap.size ≠ w1.heap.size := by omega
    have hlne : ¬ w.heap.size = w1.heap.size := by omega
    have HAA := Lib.hid hA
    have HBB := Lib.hid hB
    have HTT := Lib.hid hT
    clear hA hB hT HM Hs Hp Hz
    go_wp2_with (first
      | (go_at_call 84; (with_reducible refine (Ha.out _).mono ?_); rintro e wn ⟨rfl, rfl⟩))
    refine bodyPost_ret (results_cell_row rfl _ _ w.heap.size _ _ _ _ rfl (box_set12 (((Touch.refl (fun k => k = w1.heap.size) wc).setCell (.inl rfl) _).held HAA.out hl1')) Tryd.underlying48 rfl Tryd.sizeH) rfl ⟨rfl, ?_⟩
    exact (HTT.out.setCell (.inr (Nat.le_of_lt hl1)) _).set12 (.inr (Nat.le_refl _)) _ _ _ _ _ _ _ _ _ _ _ _

set_option maxHeartbeats 2000000 in
theorem tellCentral_01 (F X : ByteArray) (d n c s p z a : Nat) (hF : F.size = 46) (hX : X.size ≤ 1000000) (hd : gN (F.extract 14 16) = d) (hn : gN (F.extract 12 14) = n) (hc : gN (F.extract 10 12) = c)
    (hs : gN (F.extract 16 20) = s) (hp : gN (F.extract 20 24) = p) (hz : gN (F.extract 24 28) = z) (ha : gN (F.extract 42 46) = a) (cz : z ≠ full32) (ca : a = full32) (w : World) :
    Calls Tryd.prog 63 #[.string F, .string X] w fun e w' => e = .returned (Hd.v ⟨ByteArray.empty, uT d n, p, z, s, (fN (xW X)), !((c : Int) == 8)⟩) ∧ Touch (fun _ => False) w w' := by
  have hsz : (F.extract 8 F.size).size = 38 := by rw [ByteArray.size_extract]; omega
  have HM := Lib.hid (fun W => tellManner_calls (F.extract 8 F.size) d n c (by omega) (by omega)
    (by rw [ext_ext _ _ _ _ _ (by omega)]; exact hd) (by rw [ext_ext _ _ _ _ _ (by omega)]; exact hn) (by rw [hsz, ext_ext _ 2 38 _ _ (by omega), ext_ext _ _ _ _ _ (by omega)]; exact hc) W)
  have Hs := Lib.hid (fun W => zget_calls (F.extract 16 20) s hs (by rw [ByteArray.size_extract]; omega) W)
  have Hp := Lib.hid (fun W => zget_calls (F.extract 20 24) p hp (by rw [ByteArray.size_extract]; omega) W)
  have Hz := Lib.hid (fun W => zget_calls (F.extract 24 28) z hz (by rw [ByteArray.size_extract]; omega) W)
  have Ha := Lib.hid (fun W => zget_calls (F.extract 42 46) a ha (by rw [ByteArray.size_extract]; omega) W)
  have bs : s < 256 ^ 4 := by rw [← hs]; exact gN_lt _ _ (by rw [ByteArray.size_extract]; omega)
  have hF' : (F.size : Int) = 46 := by omega
  have h46 : (46 : Int) ≤ (F.size : Int) := by omega
  have hws : IntKind.u32.wrap (s : Int) = (s : Int) := by rw [IntKind.wrap_u32]; omega
  obtain ⟨k, hk⟩ : ∃ k, k = min 4 X.size := ⟨_, rfl⟩
  have hk1 : min (4 : Int) (X.size : Int) = (k : Int) := by omega
  have hk2 : min (X.size : Int) 4 = (k : Int) := by omega
  have hk3 : (if (X.size : Int) < 4 then (X.size : Int) else 4) = (k : Int) := by split <;> omega
  have hk0 : (0 : Int) ≤ (k : Int) := by omega
  have hkl : (k : Int) ≤ (X.size : Int) := by omega
  have hW : X.extract k X.size = xW X := by unfold xW; rw [hk]
  have hWs : (xW X).size ≤ 1000000 := by unfold xW; rw [ByteArray.size_extract]; omega
  have h2s := fR_size (xW X)
  have h3s := fR_size (fR (xW X))
  have HFC := Lib.hid (fun W => first_c (xW X) (by omega) W)
  clear hd hn hc hs hp hz ha hsz bs hF h2s h3s hk hWs hF'
  unfold Hd.v Hd.cs at *
  generalize uT d n = t at *
  obtain ⟨y, mo, dd, hh, mi, ss⟩ := t
  simp only at *
  generalize (!((c : Int) == 8)) = kb at *
  have hzne : ((z : Int) == 4294967295) = false := by unfold full32 at cz; simp; omega
  subst ca
  rw [show ((full32 : Nat) : Int) = 4294967295 from rfl] at Ha
  clear cz
  generalize ((fN (xW X) : Nat) : Int) = x3 at *
  generalize fR (xW X) = W1 at *
  generalize xW X = W0 at *
  generalize (s : Int) = sI at *
  generalize (p : Int) = pI at *
  generalize (z : Int) = zI at *
  go_enter Tryd.func63, Tryd.ntmps63
  go_upto_region 3 with (first
    | (go_at_call 82; refine (HM.out _).mono ?_; rintro e w1 ⟨rfl, ht1⟩; have hb1 := ht1.held (heap_alloc_new w _) id; have hl1 := row_lt hb1; have HB1 := Lib.hid hb1; have HT1 := Lib.hid (((Touch.refl (fun _ => False) w).alloc _).trans ht1); clear hb1 ht1)
    | (go_at_call 84; (with_reducible refine (Hs.out _).mono ?_); rintro e wn ⟨rfl, rfl⟩))
  go_cut [] (fun wx => wx.heap[w1.heap.size]? = some (.cells #[.string ByteArray.empty, .int .i64 y, .int .i64 mo, .int .i64 dd, .int .i64 hh, .int .i64 mi, .int .i64 ss, .int .u64 pI, .int .u64 zI, .int .u32 sI, .int .u64 0, .bool kb] 48) ∧ wx.heap[w.heap.size]? = some (.cells #[.string ⟨#[]⟩, .int .i64 0, .int .i64 0, .int .i64 0, .int .i64 0, .int .i64 0, .int .i64 0, .int .u64 0, .int .u64 0, .int .u32 0, .int .u64 0, .bool false] 48) ∧ Touch (fun _ => False) w wx)
  case first =>
    go_region_with (first
      | (go_at_call 84; (with_reducible refine (Hp.out _).mono ?_); rintro e wn ⟨rfl, rfl⟩)
      | (go_at_call 84; (with_reducible refine (Hz.out _).mono ?_); rintro e wn ⟨rfl, rfl⟩))
    all_goals go_wp2_with fail
    all_goals
      go_meet
      exact ⟨(cut_new HB1.out).1, (cut_new HB1.out).2, (HT1.out.alloc _).drew⟩
  case rest =>
    obtain ⟨hB, hA, hT⟩ := hcut
    obtain ⟨⟨c0, c1, c2, c3, c4, c5⟩, c6, c7, c8, c9, c10, c11⟩ := row12 hA; obtain ⟨⟨d0, d1, d2, d3, d4, d5⟩, d6, d7, d8, d9, d10, d11⟩ := row12 hB; have fA := box_free hA; have fB := box_free hB; have lA := row_lt hA; have lB := row_lt hB
    have hl1' : w.heap.size ≠ w1.heap.size := by omega
    have hlne : ¬ w.heap.size = w1.heap.size := by omega
    have HAA := Lib.hid hA
    have HBB := Lib.hid hB
    have HTT := Lib.hid hT
    clear hA hB hT HM Hs Hp Hz
    go_wp2_with (first
      | (go_at_call 84; (with_reducible refine (Ha.out _).mono ?_); rintro e wn ⟨rfl, rfl⟩)
      | (go_at_call 85; (with_reducible refine (HFC.out _).mono ?_); rintro e wd1 ⟨rfl, ht1⟩; have qB1 : wd1.heap[w1.heap.size]? = some (.cells #[.string ByteArray.empty, .int .i64 y, .int .i64 mo, .int .i64 dd, .int .i64 hh, .int .i64 mi, .int .i64 ss, .int .u64 pI, .int .u64 zI, .int .u32 sI, .int .u64 4294967295, .bool kb] 48) := ht1.held (heap_setCell_same _ HBB.out) id; have qA1 : wd1.heap[w.heap.size]? = some (.cells #[.string ⟨#[]⟩, .int .i64 0, .int .i64 0, .int .i64 0, .int .i64 0, .int .i64 0, .int .i64 0, .int .u64 0, .int .u64 0, .int .u32 0, .int .u64 0, .bool false] 48) := ht1.held (((Touch.refl (fun k => k = w1.heap.size) wc).setCell (.inl rfl) _).held HAA.out hlne) id; clear c0 c1 c2 c3 c4 c5 c6 c7 c8 c9 c10 c11 d0 d1 d2 d3 d4 d5 d6 d7 d8 d9 d10 d11 fA fB lA lB; obtain ⟨⟨c0, c1, c2, c3, c4, c5⟩, c6, c7, c8, c9, c10, c11⟩ := row12 qA1; obtain ⟨⟨d0, d1, d2, d3, d4, d5⟩, d6, d7, d8, d9, d10, d11⟩ := row12 qB1; have fA := box_free qA1; have fB := box_free qB1; have lA := row_lt qA1; have lB := row_lt qB1; have HA1 := Lib.hid qA1; have HBx1 := Lib.hid qB1; have HTx1 := Lib.hid ((HTT.out.setCell (.inr (Nat.le_of_lt hl1)) _).trans ht1); clear qA1 qB1 ht1))
    refine bodyPost_ret (results_cell_row rfl _ _ w.heap.size _ _ _ _ rfl (box_set12 (((Touch.refl (fun k => k = w1.heap.size) wd1).setCell (.inl rfl) _).held HA1.out hl1')) Tryd.underlying48 rfl Tryd.sizeH) rfl ⟨rfl, ?_⟩
    exact (HTx1.out.setCell (.inr (Nat.le_of_lt hl1)) _).set12 (.inr (Nat.le_refl _)) _ _ _ _ _ _ _ _ _ _ _ _

set_option maxHeartbeats 2000000 in
theorem tellCentral_10 (F X : ByteArray) (d n c s p z a : Nat) (hF : F.size = 46) (hX : X.size ≤ 1000000) (hd : gN (F.extract 14 16) = d) (hn : gN (F.extract 12 14) = n) (hc : gN (F.extract 10 12) = c)
    (hs : gN (F.extract 16 20) = s) (hp : gN (F.extract 20 24) = p) (hz : gN (F.extract 24 28) = z) (ha : gN (F.extract 42 46) = a) (cz : z = full32) (ca : a ≠ full32) (w : World) :
    Calls Tryd.prog 63 #[.string F, .string X] w fun e w' => e = .returned (Hd.v ⟨ByteArray.empty, uT d n, (fN (fR (xW X))), (fN (xW X)), s, a, !((c : Int) == 8)⟩) ∧ Touch (fun _ => False) w w' := by
  have hsz : (F.extract 8 F.size).size = 38 := by rw [ByteArray.size_extract]; omega
  have HM := Lib.hid (fun W => tellManner_calls (F.extract 8 F.size) d n c (by omega) (by omega)
    (by rw [ext_ext _ _ _ _ _ (by omega)]; exact hd) (by rw [ext_ext _ _ _ _ _ (by omega)]; exact hn) (by rw [hsz, ext_ext _ 2 38 _ _ (by omega), ext_ext _ _ _ _ _ (by omega)]; exact hc) W)
  have Hs := Lib.hid (fun W => zget_calls (F.extract 16 20) s hs (by rw [ByteArray.size_extract]; omega) W)
  have Hp := Lib.hid (fun W => zget_calls (F.extract 20 24) p hp (by rw [ByteArray.size_extract]; omega) W)
  have Hz := Lib.hid (fun W => zget_calls (F.extract 24 28) z hz (by rw [ByteArray.size_extract]; omega) W)
  have Ha := Lib.hid (fun W => zget_calls (F.extract 42 46) a ha (by rw [ByteArray.size_extract]; omega) W)
  have bs : s < 256 ^ 4 := by rw [← hs]; exact gN_lt _ _ (by rw [ByteArray.size_extract]; omega)
  have hF' : (F.size : Int) = 46 := by omega
  have h46 : (46 : Int) ≤ (F.size : Int) := by omega
  have hws : IntKind.u32.wrap (s : Int) = (s : Int) := by rw [IntKind.wrap_u32]; omega
  obtain ⟨k, hk⟩ : ∃ k, k = min 4 X.size := ⟨_, rfl⟩
  have hk1 : min (4 : Int) (X.size : Int) = (k : Int) := by omega
  have hk2 : min (X.size : Int) 4 = (k : Int) := by omega
  have hk3 : (if (X.size : Int) < 4 then (X.size : Int) else 4) = (k : Int) := by split <;> omega
  have hk0 : (0 : Int) ≤ (k : Int) := by omega
  have hkl : (k : Int) ≤ (X.size : Int) := by omega
  have hW : X.extract k X.size = xW X := by unfold xW; rw [hk]
  have hWs : (xW X).size ≤ 1000000 := by unfold xW; rw [ByteArray.size_extract]; omega
  have h2s := fR_size (xW X)
  have h3s := fR_size (fR (xW X))
  have HFA := Lib.hid (fun W => first_c (xW X) hWs W)
  have HFB := Lib.hid (fun W => first_c (fR (xW X)) (by omega) W)
  clear hd hn hc hs hp hz ha hsz bs hF h2s h3s hk hWs hF'
  unfold Hd.v Hd.cs at *
  generalize uT d n = t at *
  obtain ⟨y, mo, dd, hh, mi, ss⟩ := t
  simp only at *
  generalize (!((c : Int) == 8)) = kb at *
  subst cz
  rw [show ((full32 : Nat) : Int) = 4294967295 from rfl] at Hz
  have hane : ((a : Int) == 4294967295) = false := by unfold full32 at ca; simp; omega
  clear ca
  generalize ((fN (xW X) : Nat) : Int) = x1 at *
  generalize ((fN (fR (xW X)) : Nat) : Int) = x2 at *
  generalize fR (fR (xW X)) = W2 at *
  generalize fR (xW X) = W1 at *
  generalize xW X = W0 at *
  generalize (s : Int) = sI at *
  generalize (p : Int) = pI at *
  generalize (a : Int) = aI at *
  go_enter Tryd.func63, Tryd.ntmps63
  go_upto_region 3 with (first
    | (go_at_call 82; refine (HM.out _).mono ?_; rintro e w1 ⟨rfl, ht1⟩; have hb1 := ht1.held (heap_alloc_new w _) id; have hl1 := row_lt hb1; have HB1 := Lib.hid hb1; have HT1 := Lib.hid (((Touch.refl (fun _ => False) w).alloc _).trans ht1); clear hb1 ht1)
    | (go_at_call 84; (with_reducible refine (Hs.out _).mono ?_); rintro e wn ⟨rfl, rfl⟩))
  go_cut [] (fun wx => wx.heap[w1.heap.size]? = some (.cells #[.string ByteArray.empty, .int .i64 y, .int .i64 mo, .int .i64 dd, .int .i64 hh, .int .i64 mi, .int .i64 ss, .int .u64 pI, .int .u64 4294967295, .int .u32 sI, .int .u64 0, .bool kb] 48) ∧ wx.heap[w.heap.size]? = some (.cells #[.string ⟨#[]⟩, .int .i64 0, .int .i64 0, .int .i64 0, .int .i64 0, .int .i64 0, .int .i64 0, .int .u64 0, .int .u64 0, .int .u32 0, .int .u64 0, .bool false] 48) ∧ Touch (fun _ => False) w wx)
  case first =>
    go_region_with (first
      | (go_at_call 84; (with_reducible refine (Hp.out _).mono ?_); rintro e wn ⟨rfl, rfl⟩)
      | (go_at_call 84; (with_reducible refine (Hz.out _).mono ?_); rintro e wn ⟨rfl, rfl⟩))
    all_goals go_wp2_with fail
    all_goals
      go_meet
      exact ⟨(cut_new HB1.out).1, (cut_new HB1.out).2, (HT1.out.alloc _).drew⟩
  case rest =>
    obtain ⟨hB, hA, hT⟩ := hcut
    obtain ⟨⟨c0, c1, c2, c3, c4, c5⟩, c6, c7, c8, c9, c10, c11⟩ := row12 hA; obtain ⟨⟨d0, d1, d2, d3, d4, d5⟩, d6, d7, d8, d9, d10, d11⟩ := row12 hB; have fA := box_free hA; have fB := box_free hB; have lA := row_lt hA; have lB := row_lt hB
    have hl1' : w.heap.size ≠ w1.heap.size := by omega
    have hlne : ¬ w.heap.size = w1.heap.size := by omega
    have HAA := Lib.hid hA
    have HBB := Lib.hid hB
    have HTT := Lib.hid hT
    clear hA hB hT HM Hs Hp Hz
    go_wp2_with (first
      | (go_at_call 84; (with_reducible refine (Ha.out _).mono ?_); rintro e wn ⟨rfl, rfl⟩)
      | (go_at_call 85; (with_reducible refine (HFA.out _).mono ?_); rintro e wd1 ⟨rfl, ht1⟩; have qB1 : wd1.heap[w1.heap.size]? = some (.cells #[.string ByteArray.empty, .int .i64 y, .int .i64 mo, .int .i64 dd, .int .i64 hh, .int .i64 mi, .int .i64 ss, .int .u64 pI, .int .u64 4294967295, .int .u32 sI, .int .u64 aI, .bool kb] 48) := ht1.held (heap_setCell_same _ HBB.out) id; have qA1 : wd1.heap[w.heap.size]? = some (.cells #[.string ⟨#[]⟩, .int .i64 0, .int .i64 0, .int .i64 0, .int .i64 0, .int .i64 0, .int .i64 0, .int .u64 0, .int .u64 0, .int .u32 0, .int .u64 0, .bool false] 48) := ht1.held (((Touch.refl (fun k => k = w1.heap.size) wc).setCell (.inl rfl) _).held HAA.out hlne) id; clear c0 c1 c2 c3 c4 c5 c6 c7 c8 c9 c10 c11 d0 d1 d2 d3 d4 d5 d6 d7 d8 d9 d10 d11 fA fB lA lB; obtain ⟨⟨c0, c1, c2, c3, c4, c5⟩, c6, c7, c8, c9, c10, c11⟩ := row12 qA1; obtain ⟨⟨d0, d1, d2, d3, d4, d5⟩, d6, d7, d8, d9, d10, d11⟩ := row12 qB1; have fA := box_free qA1; have fB := box_free qB1; have lA := row_lt qA1; have lB := row_lt qB1; have HA1 := Lib.hid qA1; have HBx1 := Lib.hid qB1; have HTx1 := Lib.hid ((HTT.out.setCell (.inr (Nat.le_of_lt hl1)) _).trans ht1); clear qA1 qB1 ht1)
      | (go_at_call 85; (with_reducible refine (HFB.out _).mono ?_); rintro e wd2 ⟨rfl, ht2⟩; have qB2 : wd2.heap[w1.heap.size]? = some (.cells #[.string ByteArray.empty, .int .i64 y, .int .i64 mo, .int .i64 dd, .int .i64 hh, .int .i64 mi, .int .i64 ss, .int .u64 pI, .int .u64 x1, .int .u32 sI, .int .u64 aI, .bool kb] 48) := ht2.held (heap_setCell_same _ HBx1.out) id; have qA2 : wd2.heap[w.heap.size]? = some (.cells #[.string ⟨#[]⟩, .int .i64 0, .int .i64 0, .int .i64 0, .int .i64 0, .int .i64 0, .int .i64 0, .int .u64 0, .int .u64 0, .int .u32 0, .int .u64 0, .bool false] 48) := ht2.held (((Touch.refl (fun k => k = w1.heap.size) wd1).setCell (.inl rfl) _).held HA1.out hlne) id; clear c0 c1 c2 c3 c4 c5 c6 c7 c8 c9 c10 c11 d0 d1 d2 d3 d4 d5 d6 d7 d8 d9 d10 d11 fA fB lA lB; obtain ⟨⟨c0, c1, c2, c3, c4, c5⟩, c6, c7, c8, c9, c10, c11⟩ := row12 qA2; obtain ⟨⟨d0, d1, d2, d3, d4, d5⟩, d6, d7, d8, d9, d10, d11⟩ := row12 qB2; have fA := box_free qA2; have fB := box_free qB2; have lA := row_lt qA2; have lB := row_lt qB2; have HA2 := Lib.hid qA2; have HBx2 := Lib.hid qB2; have HTx2 := Lib.hid ((HTx1.out.setCell (.inr (Nat.le_of_lt hl1)) _).trans ht2); clear qA2 qB2 ht2))
    refine bodyPost_ret (results_cell_row rfl _ _ w.heap.size _ _ _ _ rfl (box_set12 (((Touch.refl (fun k => k = w1.heap.size) wd2).setCell (.inl rfl) _).held HA2.out hl1')) Tryd.underlying48 rfl Tryd.sizeH) rfl ⟨rfl, ?_⟩
    exact (HTx2.out.setCell (.inr (Nat.le_of_lt hl1)) _).set12 (.inr (Nat.le_refl _)) _ _ _ _ _ _ _ _ _ _ _ _

set_option maxHeartbeats 2000000 in
theorem tellCentral_11 (F X : ByteArray) (d n c s p z a : Nat) (hF : F.size = 46) (hX : X.size ≤ 1000000) (hd : gN (F.extract 14 16) = d) (hn : gN (F.extract 12 14) = n) (hc : gN (F.extract 10 12) = c)
    (hs : gN (F.extract 16 20) = s) (hp : gN (F.extract 20 24) = p) (hz : gN (F.extract 24 28) = z) (ha : gN (F.extract 42 46) = a) (cz : z = full32) (ca : a = full32) (w : World) :
    Calls Tryd.prog 63 #[.string F, .string X] w fun e w' => e = .returned (Hd.v ⟨ByteArray.empty, uT d n, (fN (fR (xW X))), (fN (xW X)), s, (fN (fR (fR (xW X)))), !((c : Int) == 8)⟩) ∧ Touch (fun _ => False) w w' := by
  have hsz : (F.extract 8 F.size).size = 38 := by rw [ByteArray.size_extract]; omega
  have HM := Lib.hid (fun W => tellManner_calls (F.extract 8 F.size) d n c (by omega) (by omega)
    (by rw [ext_ext _ _ _ _ _ (by omega)]; exact hd) (by rw [ext_ext _ _ _ _ _ (by omega)]; exact hn) (by rw [hsz, ext_ext _ 2 38 _ _ (by omega), ext_ext _ _ _ _ _ (by omega)]; exact hc) W)
  have Hs := Lib.hid (fun W => zget_calls (F.extract 16 20) s hs (by rw [ByteArray.size_extract]; omega) W)
  have Hp := Lib.hid (fun W => zget_calls (F.extract 20 24) p hp (by rw [ByteArray.size_extract]; omega) W)
  have Hz := Lib.hid (fun W => zget_calls (F.extract 24 28) z hz (by rw [ByteArray.size_extract]; omega) W)
  have Ha := Lib.hid (fun W => zget_calls (F.extract 42 46) a ha (by rw [ByteArray.size_extract]; omega) W)
  have bs : s < 256 ^ 4 := by rw [← hs]; exact gN_lt _ _ (by rw [ByteArray.size_extract]; omega)
  have hF' : (F.size : Int) = 46 := by omega
  have h46 : (46 : Int) ≤ (F.size : Int) := by omega
  have hws : IntKind.u32.wrap (s : Int) = (s : Int) := by rw [IntKind.wrap_u32]; omega
  obtain ⟨k, hk⟩ : ∃ k, k = min 4 X.size := ⟨_, rfl⟩
  have hk1 : min (4 : Int) (X.size : Int) = (k : Int) := by omega
  have hk2 : min (X.size : Int) 4 = (k : Int) := by omega
  have hk3 : (if (X.size : Int) < 4 then (X.size : Int) else 4) = (k : Int) := by split <;> omega
  have hk0 : (0 : Int) ≤ (k : Int) := by omega
  have hkl : (k : Int) ≤ (X.size : Int) := by omega
  have hW : X.extract k X.size = xW X := by unfold xW; rw [hk]
  have hWs : (xW X).size ≤ 1000000 := by unfold xW; rw [ByteArray.size_extract]; omega
  have h2s := fR_size (xW X)
  have h3s := fR_size (fR (xW X))
  have HFA := Lib.hid (fun W => first_c (xW X) hWs W)
  have HFB := Lib.hid (fun W => first_c (fR (xW X)) (by omega) W)
  have HFC := Lib.hid (fun W => first_c (fR (fR (xW X))) (by omega) W)
  clear hd hn hc hs hp hz ha hsz bs hF h2s h3s hk hWs hF'
  unfold Hd.v Hd.cs at *
  generalize uT d n = t at *
  obtain ⟨y, mo, dd, hh, mi, ss⟩ := t
  simp only at *
  generalize (!((c : Int) == 8)) = kb at *
  subst cz
  rw [show ((full32 : Nat) : Int) = 4294967295 from rfl] at Hz
  subst ca
  rw [show ((full32 : Nat) : Int) = 4294967295 from rfl] at Ha
  generalize ((fN (xW X) : Nat) : Int) = x1 at *
  generalize ((fN (fR (xW X)) : Nat) : Int) = x2 at *
  generalize ((fN (fR (fR (xW X))) : Nat) : Int) = x3 at *
  generalize fR (fR (xW X)) = W2 at *
  generalize fR (xW X) = W1 at *
  generalize xW X = W0 at *
  generalize (s : Int) = sI at *
  generalize (p : Int) = pI at *
  go_enter Tryd.func63, Tryd.ntmps63
  go_upto_region 3 with (first
    | (go_at_call 82; refine (HM.out _).mono ?_; rintro e w1 ⟨rfl, ht1⟩; have hb1 := ht1.held (heap_alloc_new w _) id; have hl1 := row_lt hb1; have HB1 := Lib.hid hb1; have HT1 := Lib.hid (((Touch.refl (fun _ => False) w).alloc _).trans ht1); clear hb1 ht1)
    | (go_at_call 84; (with_reducible refine (Hs.out _).mono ?_); rintro e wn ⟨rfl, rfl⟩))
  go_cut [] (fun wx => wx.heap[w1.heap.size]? = some (.cells #[.string ByteArray.empty, .int .i64 y, .int .i64 mo, .int .i64 dd, .int .i64 hh, .int .i64 mi, .int .i64 ss, .int .u64 pI, .int .u64 4294967295, .int .u32 sI, .int .u64 0, .bool kb] 48) ∧ wx.heap[w.heap.size]? = some (.cells #[.string ⟨#[]⟩, .int .i64 0, .int .i64 0, .int .i64 0, .int .i64 0, .int .i64 0, .int .i64 0, .int .u64 0, .int .u64 0, .int .u32 0, .int .u64 0, .bool false] 48) ∧ Touch (fun _ => False) w wx)
  case first =>
    go_region_with (first
      | (go_at_call 84; (with_reducible refine (Hp.out _).mono ?_); rintro e wn ⟨rfl, rfl⟩)
      | (go_at_call 84; (with_reducible refine (Hz.out _).mono ?_); rintro e wn ⟨rfl, rfl⟩))
    all_goals go_wp2_with fail
    all_goals
      go_meet
      exact ⟨(cut_new HB1.out).1, (cut_new HB1.out).2, (HT1.out.alloc _).drew⟩
  case rest =>
    obtain ⟨hB, hA, hT⟩ := hcut
    obtain ⟨⟨c0, c1, c2, c3, c4, c5⟩, c6, c7, c8, c9, c10, c11⟩ := row12 hA; obtain ⟨⟨d0, d1, d2, d3, d4, d5⟩, d6, d7, d8, d9, d10, d11⟩ := row12 hB; have fA := box_free hA; have fB := box_free hB; have lA := row_lt hA; have lB := row_lt hB
    have hl1' : w.heap.size ≠ w1.heap.size := by omega
    have hlne : ¬ w.heap.size = w1.heap.size := by omega
    have HAA := Lib.hid hA
    have HBB := Lib.hid hB
    have HTT := Lib.hid hT
    clear hA hB hT HM Hs Hp Hz
    go_wp2_with (first
      | (go_at_call 84; (with_reducible refine (Ha.out _).mono ?_); rintro e wn ⟨rfl, rfl⟩)
      | (go_at_call 85; (with_reducible refine (HFA.out _).mono ?_); rintro e wd1 ⟨rfl, ht1⟩; have qB1 : wd1.heap[w1.heap.size]? = some (.cells #[.string ByteArray.empty, .int .i64 y, .int .i64 mo, .int .i64 dd, .int .i64 hh, .int .i64 mi, .int .i64 ss, .int .u64 pI, .int .u64 4294967295, .int .u32 sI, .int .u64 4294967295, .bool kb] 48) := ht1.held (heap_setCell_same _ HBB.out) id; have qA1 : wd1.heap[w.heap.size]? = some (.cells #[.string ⟨#[]⟩, .int .i64 0, .int .i64 0, .int .i64 0, .int .i64 0, .int .i64 0, .int .i64 0, .int .u64 0, .int .u64 0, .int .u32 0, .int .u64 0, .bool false] 48) := ht1.held (((Touch.refl (fun k => k = w1.heap.size) wc).setCell (.inl rfl) _).held HAA.out hlne) id; clear c0 c1 c2 c3 c4 c5 c6 c7 c8 c9 c10 c11 d0 d1 d2 d3 d4 d5 d6 d7 d8 d9 d10 d11 fA fB lA lB; obtain ⟨⟨c0, c1, c2, c3, c4, c5⟩, c6, c7, c8, c9, c10, c11⟩ := row12 qA1; obtain ⟨⟨d0, d1, d2, d3, d4, d5⟩, d6, d7, d8, d9, d10, d11⟩ := row12 qB1; have fA := box_free qA1; have fB := box_free qB1; have lA := row_lt qA1; have lB := row_lt qB1; have HA1 := Lib.hid qA1; have HBx1 := Lib.hid qB1; have HTx1 := Lib.hid ((HTT.out.setCell (.inr (Nat.le_of_lt hl1)) _).trans ht1); clear qA1 qB1 ht1)
      | (go_at_call 85; (with_reducible refine (HFB.out _).mono ?_); rintro e wd2 ⟨rfl, ht2⟩; have qB2 : wd2.heap[w1.heap.size]? = some (.cells #[.string ByteArray.empty, .int .i64 y, .int .i64 mo, .int .i64 dd, .int .i64 hh, .int .i64 mi, .int .i64 ss, .int .u64 pI, .int .u64 x1, .int .u32 sI, .int .u64 4294967295, .bool kb] 48) := ht2.held (heap_setCell_same _ HBx1.out) id; have qA2 : wd2.heap[w.heap.size]? = some (.cells #[.string ⟨#[]⟩, .int .i64 0, .int .i64 0, .int .i64 0, .int .i64 0, .int .i64 0, .int .i64 0, .int .u64 0, .int .u64 0, .int .u32 0, .int .u64 0, .bool false] 48) := ht2.held (((Touch.refl (fun k => k = w1.heap.size) wd1).setCell (.inl rfl) _).held HA1.out hlne) id; clear c0 c1 c2 c3 c4 c5 c6 c7 c8 c9 c10 c11 d0 d1 d2 d3 d4 d5 d6 d7 d8 d9 d10 d11 fA fB lA lB; obtain ⟨⟨c0, c1, c2, c3, c4, c5⟩, c6, c7, c8, c9, c10, c11⟩ := row12 qA2; obtain ⟨⟨d0, d1, d2, d3, d4, d5⟩, d6, d7, d8, d9, d10, d11⟩ := row12 qB2; have fA := box_free qA2; have fB := box_free qB2; have lA := row_lt qA2; have lB := row_lt qB2; have HA2 := Lib.hid qA2; have HBx2 := Lib.hid qB2; have HTx2 := Lib.hid ((HTx1.out.setCell (.inr (Nat.le_of_lt hl1)) _).trans ht2); clear qA2 qB2 ht2)
      | (go_at_call 85; (with_reducible refine (HFC.out _).mono ?_); rintro e wd3 ⟨rfl, ht3⟩; have qB3 : wd3.heap[w1.heap.size]? = some (.cells #[.string ByteArray.empty, .int .i64 y, .int .i64 mo, .int .i64 dd, .int .i64 hh, .int .i64 mi, .int .i64 ss, .int .u64 x2, .int .u64 x1, .int .u32 sI, .int .u64 4294967295, .bool kb] 48) := ht3.held (heap_setCell_same _ HBx2.out) id; have qA3 : wd3.heap[w.heap.size]? = some (.cells #[.string ⟨#[]⟩, .int .i64 0, .int .i64 0, .int .i64 0, .int .i64 0, .int .i64 0, .int .i64 0, .int .u64 0, .int .u64 0, .int .u32 0, .int .u64 0, .bool false] 48) := ht3.held (((Touch.refl (fun k => k = w1.heap.size) wd2).setCell (.inl rfl) _).held HA2.out hlne) id; clear c0 c1 c2 c3 c4 c5 c6 c7 c8 c9 c10 c11 d0 d1 d2 d3 d4 d5 d6 d7 d8 d9 d10 d11 fA fB lA lB; obtain ⟨⟨c0, c1, c2, c3, c4, c5⟩, c6, c7, c8, c9, c10, c11⟩ := row12 qA3; obtain ⟨⟨d0, d1, d2, d3, d4, d5⟩, d6, d7, d8, d9, d10, d11⟩ := row12 qB3; have fA := box_free qA3; have fB := box_free qB3; have lA := row_lt qA3; have lB := row_lt qB3; have HA3 := Lib.hid qA3; have HBx3 := Lib.hid qB3; have HTx3 := Lib.hid ((HTx2.out.setCell (.inr (Nat.le_of_lt hl1)) _).trans ht3); clear qA3 qB3 ht3))
    refine bodyPost_ret (results_cell_row rfl _ _ w.heap.size _ _ _ _ rfl (box_set12 (((Touch.refl (fun k => k = w1.heap.size) wd3).setCell (.inl rfl) _).held HA3.out hl1')) Tryd.underlying48 rfl Tryd.sizeH) rfl ⟨rfl, ?_⟩
    exact (HTx3.out.setCell (.inr (Nat.le_of_lt hl1)) _).set12 (.inr (Nat.le_refl _)) _ _ _ _ _ _ _ _ _ _ _ _

/-- What a central header tells, beside the name. -/
def tC (F X : ByteArray) : Hd :=
  ⟨ByteArray.empty, uT (gN (F.extract 14 16)) (gN (F.extract 12 14)), if gN (F.extract 24 28) = full32 then fN (fR (xW X)) else gN (F.extract 20 24), if gN (F.extract 24 28) = full32 then fN (xW X) else gN (F.extract 24 28), gN (F.extract 16 20),
    if gN (F.extract 42 46) = full32 then fN (if gN (F.extract 24 28) = full32 then fR (fR (xW X)) else xW X) else gN (F.extract 42 46), !((gN (F.extract 10 12) : Int) == 8)⟩
/-- What a local header tells, beside the name. -/
def tL (F X : ByteArray) : Hd := ⟨ByteArray.empty, uT (gN (F.extract 12 14)) (gN (F.extract 10 12)), 0, if X.size = 0 then 0 else full32, 0, 0, !((gN (F.extract 8 10) : Int) == 8)⟩

theorem tellL_calls (F X : ByteArray) (hF : F.size = 30) (hX : X.size ≤ 1000000) (w : World) : Calls Tryd.prog 61 #[.string F, .string X] w fun e w' => e = .returned (tL F X).v ∧ Touch (fun _ => False) w w' :=
  tellLocal_calls F X _ _ _ hF hX rfl rfl rfl w
theorem tellC_calls (F X : ByteArray) (hF : F.size = 46) (hX : X.size ≤ 1000000) (w : World) : Calls Tryd.prog 63 #[.string F, .string X] w fun e w' => e = .returned (tC F X).v ∧ Touch (fun _ => False) w w' := by
  unfold tC
  by_cases cz : gN (F.extract 24 28) = full32 <;> by_cases ca : gN (F.extract 42 46) = full32
  · simp only [if_pos cz, if_pos ca]
    exact tellCentral_11 F X _ _ _ _ _ _ _ hF hX rfl rfl rfl rfl rfl rfl rfl cz ca w
  · simp only [if_pos cz, if_neg ca]
    exact tellCentral_10 F X _ _ _ _ _ _ _ hF hX rfl rfl rfl rfl rfl rfl rfl cz ca w
  · simp only [if_neg cz, if_pos ca]
    exact tellCentral_01 F X _ _ _ _ _ _ _ hF hX rfl rfl rfl rfl rfl rfl rfl cz ca w
  · simp only [if_neg cz, if_neg ca]
    exact tellCentral_00 F X _ _ _ _ _ _ _ hF hX rfl rfl rfl rfl rfl rfl rfl cz ca w
end Go.Proofs.YtdohhmaggeocjaaDoor
