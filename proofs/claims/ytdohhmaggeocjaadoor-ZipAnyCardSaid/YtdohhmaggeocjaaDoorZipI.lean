/- Contracts of package zip: the first number of an extra field's, and what a local header tells. -/
import Derived.Test.YtdohhmaggeocjaaDoorZipH
namespace Go.Proofs.YtdohhmaggeocjaaDoor
open Go Go.RowKit
set_option maxRecDepth 100000

set_option maxHeartbeats 1000000 in
theorem first_calls (s : ByteArray) (k n : Nat) (hk : k = min 8 s.size) (hs : s.size ≤ 1000000) (hn : gN (s.extract 0 k) = n) (w : World) : Calls Tryd.prog 85 #[.string s] w fun e w' => e = .returned (.tuple #[.int .u64 n, .string (s.extract k s.size)]) ∧ Touch (fun _ => False) w w' := by
  have HG := Lib.hid (fun W => zget_calls (s.extract 0 k) n hn (by rw [ByteArray.size_extract]; omega) W)
  have hk1 : min (8 : Int) (s.size : Int) = (k : Int) := by omega
  have hk2 : min (s.size : Int) 8 = (k : Int) := by omega
  have hk3 : (if (s.size : Int) < 8 then (s.size : Int) else 8) = (k : Int) := by split <;> omega
  have hk0 : (0 : Int) ≤ (k : Int) := by omega
  have hkl : (k : Int) ≤ (s.size : Int) := by omega
  clear hk hn
  go_enter Tryd.func85, Tryd.ntmps85
  go_wp2_with fail
  refine wp_region_quiet_touch (fun _ => False) (by kernel_rfl) (by kernel_rfl) ?_
  clear hk1 hk2 hk3
  repeat (go_big_quiet_step (first
    | (go_at_call 84; exact quiet_touch_same (HG.out _))))
  refine wpQuiet_nil ?_
  intro _ h1
  obtain ⟨T, h2⟩ := h1
  subst h2
  go_wp2
  go_ret2
  exact ⟨rfl, T.ok⟩

theorem box_set12a {w : World} {b : Nat} {x0 x1 x2 x3 x4 x5 x6 x7 x8 x9 x10 x11 y0 y1 y2 y3 y4 y5 y6 y7 y8 y9 y10 y11 : Value} {t : TypeId} {o : Obj} (h : w.heap[b]? = some (.cells #[x0, x1, x2, x3, x4, x5, x6, x7, x8, x9, x10, x11] t)) :
    (((((((((((((w.setCell ⟨b, 0, none⟩ y0).setCell ⟨b, 1, none⟩ y1).setCell ⟨b, 2, none⟩ y2).setCell ⟨b, 3, none⟩ y3).setCell ⟨b, 4, none⟩ y4).setCell ⟨b, 5, none⟩ y5).setCell ⟨b, 6, none⟩ y6).setCell ⟨b, 7, none⟩ y7).setCell ⟨b, 8, none⟩ y8).setCell ⟨b, 9, none⟩ y9).setCell ⟨b, 10, none⟩ y10).setCell ⟨b, 11, none⟩ y11).alloc o).heap[b]? = some (.cells #[y0, y1, y2, y3, y4, y5, y6, y7, y8, y9, y10, y11] t) := by
  have h2 : ((((((((((((w.setCell ⟨b, 0, none⟩ y0).setCell ⟨b, 1, none⟩ y1).setCell ⟨b, 2, none⟩ y2).setCell ⟨b, 3, none⟩ y3).setCell ⟨b, 4, none⟩ y4).setCell ⟨b, 5, none⟩ y5).setCell ⟨b, 6, none⟩ y6).setCell ⟨b, 7, none⟩ y7).setCell ⟨b, 8, none⟩ y8).setCell ⟨b, 9, none⟩ y9).setCell ⟨b, 10, none⟩ y10).setCell ⟨b, 11, none⟩ y11).heap[b]? = some (.cells #[y0, y1, y2, y3, y4, y5, y6, y7, y8, y9, y10, y11] t) := box_set12 h
  exact (Below.heap_alloc _ _ _ (row_lt h2)).trans h2

/-- The first number of an extra field's, and the rest. -/
def fN (s : ByteArray) : Nat := gN (s.extract 0 (min 8 s.size))
def fR (s : ByteArray) : ByteArray := s.extract (min 8 s.size) s.size
theorem fR_size (s : ByteArray) : (fR s).size ≤ s.size := by unfold fR; rw [ByteArray.size_extract]; omega
theorem first_c (s : ByteArray) (hs : s.size ≤ 1000000) (w : World) : Calls Tryd.prog 85 #[.string s] w fun e w' => e = .returned (.tuple #[.int .u64 (fN s : Nat), .string (fR s)]) ∧ Touch (fun _ => False) w w' :=
  first_calls s (min 8 s.size) (fN s) rfl hs rfl w

theorem ext_ext (s : ByteArray) (a b c d : Nat) (h : a + d ≤ b) : (s.extract a b).extract c d = s.extract (a + c) (a + d) := by
  rw [ByteArray.extract_extract]
  congr 1
  omega

set_option maxHeartbeats 400000 in
theorem tellLocal_calls (F X : ByteArray) (d n c : Nat) (hF : F.size = 30) (_hX : X.size ≤ 1000000) (hd : gN (F.extract 12 14) = d) (hn : gN (F.extract 10 12) = n) (hc : gN (F.extract 8 10) = c) (w : World) :
    Calls Tryd.prog 61 #[.string F, .string X] w fun e w' => e = .returned (Hd.v ⟨ByteArray.empty, uT d n, 0, if X.size = 0 then 0 else full32, 0, 0, !((c : Int) == 8)⟩) ∧ Touch (fun _ => False) w w' := by
  have hsz : (F.extract 6 F.size).size = 24 := by rw [ByteArray.size_extract]; omega
  have HM := Lib.hid (fun W => tellManner_calls (F.extract 6 F.size) d n c (by omega) (by omega)
    (by rw [ext_ext _ _ _ _ _ (by omega)]; exact hd) (by rw [ext_ext _ _ _ _ _ (by omega)]; exact hn) (by rw [hsz, ext_ext _ 2 24 _ _ (by omega), ext_ext _ _ _ _ _ (by omega)]; exact hc) W)
  have hF' : (F.size : Int) = 30 := by omega
  have h6 : (6 : Int) ≤ (F.size : Int) := by omega
  clear hd hn hc hsz hF hF'
  unfold Hd.v Hd.cs at *
  generalize uT d n = t at *
  obtain ⟨y, mo, dd, hh, mi, ss⟩ := t
  simp only at *
  generalize (!((c : Int) == 8)) = kb at *
  by_cases hx : X.size = 0
  · have hxe : X.toList.isEmpty = true := strNil hx
    rw [if_pos hx]
    go_enter Tryd.func61, Tryd.ntmps61
    go_wp2_with (go_at_call 82; refine (HM.out _).mono ?_; rintro e w1 ⟨rfl, ht1⟩; have hb1 := ht1.held (heap_alloc_new w _) id; obtain ⟨⟨c0, c1, c2, c3, c4, c5⟩, c6, c7, c8, c9, c10, c11⟩ := row12 hb1; have hf1 := box_free hb1; have hl1 := row_lt hb1; have HB1 := Lib.hid hb1; have HT1 := Lib.hid (((Touch.refl (fun _ => False) w).alloc _).trans ht1); clear hb1 ht1)
    refine bodyPost_ret (results_cell_row rfl _ _ w.heap.size _ _ _ _ rfl (box_set12a HB1.out) Tryd.underlying48 rfl Tryd.sizeH) rfl ⟨rfl, ?_⟩
    exact (HT1.out.set12 (.inr (Nat.le_refl _)) _ _ _ _ _ _ _ _ _ _ _ _).alloc _
  · have hxe : X.toList.isEmpty = false := strFull hx
    rw [if_neg hx]
    go_enter Tryd.func61, Tryd.ntmps61
    go_wp2_with (go_at_call 82; refine (HM.out _).mono ?_; rintro e w1 ⟨rfl, ht1⟩; have hb1 := ht1.held (heap_alloc_new w _) id; obtain ⟨⟨c0, c1, c2, c3, c4, c5⟩, c6, c7, c8, c9, c10, c11⟩ := row12 hb1; have hf1 := box_free hb1; have hl1 := row_lt hb1; have HB1 := Lib.hid hb1; have HT1 := Lib.hid (((Touch.refl (fun _ => False) w).alloc _).trans ht1); clear hb1 ht1)
    refine bodyPost_ret (results_cell_row rfl _ _ w.heap.size _ _ _ _ rfl (box_set12a HB1.out) Tryd.underlying48 rfl Tryd.sizeH) rfl ⟨rfl, ?_⟩
    exact (HT1.out.set12 (.inr (Nat.le_refl _)) _ _ _ _ _ _ _ _ _ _ _ _).alloc _
end Go.Proofs.YtdohhmaggeocjaaDoor
