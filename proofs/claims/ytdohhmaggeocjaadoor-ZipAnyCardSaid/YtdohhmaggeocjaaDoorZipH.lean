/- Contracts of package zip: what a header's bytes tell (the functions that make a head). -/
import Derived.Test.YtdohhmaggeocjaaDoorZipG
import Derived.Deep.RegionWith
namespace Go.Proofs.YtdohhmaggeocjaaDoor
open Go Go.RowKit
set_option maxRecDepth 100000

theorem Touch.undrew {S : Nat → Prop} {X w1 : World} (h : Touch S X.drew w1) : Touch S X w1 := ⟨h.os, h.tape, h.output, h.size, h.block⟩

theorem box_set12d {w : World} {b : Nat} {x0 x1 x2 x3 x4 x5 x6 x7 x8 x9 x10 x11 y0 y1 y2 y3 y4 y5 y6 y7 y8 y9 y10 y11 : Value} {t : TypeId} (h : w.heap[b]? = some (.cells #[x0, x1, x2, x3, x4, x5, x6, x7, x8, x9, x10, x11] t)) :
    ((((((((((((w.setCell ⟨b, 0, none⟩ y0).setCell ⟨b, 1, none⟩ y1).setCell ⟨b, 2, none⟩ y2).setCell ⟨b, 3, none⟩ y3).setCell ⟨b, 4, none⟩ y4).setCell ⟨b, 5, none⟩ y5).setCell ⟨b, 6, none⟩ y6).setCell ⟨b, 7, none⟩ y7).setCell ⟨b, 8, none⟩ y8).setCell ⟨b, 9, none⟩ y9).setCell ⟨b, 10, none⟩ y10).setCell ⟨b, 11, none⟩ y11).drew.heap[b]? = some (.cells #[y0, y1, y2, y3, y4, y5, y6, y7, y8, y9, y10, y11] t) := by
  have e : ∀ X : World, X.drew.heap = X.heap := fun _ => rfl
  rw [e]
  exact box_set12 h

theorem mannerA {w w1 : World} {o12 : Obj} {x0 x1 x2 x3 x4 x5 y0 y1 y2 y3 y4 y5 : Value} {z6 : Array Value} {t : TypeId} (ht1 : Touch (fun _ => False) ((w.alloc o12).alloc (.cells z6 t)).drew w1) (hb1 : w1.heap[w.heap.size + 1]? = some (.cells #[x0, x1, x2, x3, x4, x5] t)) :
    ((((((w1.setCell ⟨w.heap.size + 1, 0, none⟩ y0).setCell ⟨w.heap.size + 1, 1, none⟩ y1).setCell ⟨w.heap.size + 1, 2, none⟩ y2).setCell ⟨w.heap.size + 1, 3, none⟩ y3).setCell ⟨w.heap.size + 1, 4, none⟩ y4).setCell ⟨w.heap.size + 1, 5, none⟩ y5).heap[w.heap.size]? = some o12 ∧ ((((((w1.setCell ⟨w.heap.size + 1, 0, none⟩ y0).setCell ⟨w.heap.size + 1, 1, none⟩ y1).setCell ⟨w.heap.size + 1, 2, none⟩ y2).setCell ⟨w.heap.size + 1, 3, none⟩ y3).setCell ⟨w.heap.size + 1, 4, none⟩ y4).setCell ⟨w.heap.size + 1, 5, none⟩ y5).heap[w.heap.size + 1]? = some (.cells #[y0, y1, y2, y3, y4, y5] t) ∧ Touch (fun _ => False) w ((((((w1.setCell ⟨w.heap.size + 1, 0, none⟩ y0).setCell ⟨w.heap.size + 1, 1, none⟩ y1).setCell ⟨w.heap.size + 1, 2, none⟩ y2).setCell ⟨w.heap.size + 1, 3, none⟩ y3).setCell ⟨w.heap.size + 1, 4, none⟩ y4).setCell ⟨w.heap.size + 1, 5, none⟩ y5) := by
  have h12 : ((w.alloc o12).alloc (.cells z6 t)).heap[w.heap.size]? = some o12 := by
    rw [Below.heap_alloc _ _ _ (by rw [alloc_size]; omega)]; exact heap_alloc_new w _
  refine ⟨((Touch.refl (fun k => k = w.heap.size + 1) w1).set6 (.inl rfl) y0 y1 y2 y3 y4 y5).held (ht1.undrew.held h12 id) (by omega), box_set6 hb1, ?_⟩
  exact ((((Touch.refl _ _).alloc _).alloc _).trans ht1.undrew).set6 (.inr (by omega)) _ _ _ _ _ _
theorem mannerB {w w1 : World} {o12 : Obj} {y0 y1 y2 y3 y4 y5 : Value} {t : TypeId} (ht1 : Touch (fun _ => False) (w.alloc o12).drew w1) :
    (w1.alloc (.cells #[y0, y1, y2, y3, y4, y5] t)).heap[w.heap.size]? = some o12 ∧ (w1.alloc (.cells #[y0, y1, y2, y3, y4, y5] t)).heap[w1.heap.size]? = some (.cells #[y0, y1, y2, y3, y4, y5] t) ∧ Touch (fun _ => False) w (w1.alloc (.cells #[y0, y1, y2, y3, y4, y5] t)) := by
  have h1 := ht1.undrew.held (heap_alloc_new w o12) id
  have hl := row_lt h1
  exact ⟨((Touch.refl (fun _ => False) w1).alloc _).held h1 id, heap_alloc_new w1 _, ((((Touch.refl _ _).alloc _).trans ht1.undrew).alloc _)⟩

set_option maxHeartbeats 3000000 in
theorem tellManner_calls (s : ByteArray) (d n c : Nat) (h8 : 8 ≤ s.size) (hs : s.size ≤ 1000) (hd : gN (s.extract 6 8) = d) (hn : gN (s.extract 4 6) = n) (hc : gN ((s.extract 2 s.size).extract 0 2) = c) (w : World) :
    Calls Tryd.prog 82 #[.string s] w fun e w' => e = .returned (Hd.v ⟨ByteArray.empty, uT d n, 0, 0, 0, 0, !((c : Int) == 8)⟩) ∧ Touch (fun _ => False) w w' := by
  have H1 := Lib.hid (fun W => zget_calls (s.extract 6 8) d hd (by rw [ByteArray.size_extract]; omega) W)
  have H2 := Lib.hid (fun W => zget_calls (s.extract 4 6) n hn (by rw [ByteArray.size_extract]; omega) W)
  have H3 := Lib.hid (fun W => znumber_calls (s.extract 2 s.size) c (by rw [ByteArray.size_extract]; omega) hc W)
  have hd' : d < 256 ^ 2 := by rw [← hd]; exact gN_lt _ _ (by rw [ByteArray.size_extract]; omega)
  have hn' : n < 256 ^ 2 := by rw [← hn]; exact gN_lt _ _ (by rw [ByteArray.size_extract]; omega)
  obtain ⟨b, hU⟩ := unpack_b d n (by omega) (by omega)
  have HU := Lib.hid hU
  have h8' : (8 : Int) ≤ (s.size : Int) := by omega
  clear hd hn hc hU hd' hn'
  unfold Hd.v Hd.cs
  generalize uT d n = t at *
  obtain ⟨y, mo, dd, hh, mi, ss⟩ := t
  unfold Tim.v at HU
  simp only at HU ⊢
  have HUA := Lib.hid (fun (X : World) (o : Obj) => (HU.out ((X.alloc o).alloc (.cells #[.int .i64 0, .int .i64 0, .int .i64 0, .int .i64 0, .int .i64 0, .int .i64 0] 46)).drew).mono fun e w' (h : e = _ ∧ Touch (fun _ => False) _ w') => (⟨h.1, h.2, (h.2.undrew).held (by rw [← alloc_size X o]; exact heap_alloc_new _ _) id⟩ : e = _ ∧ Touch (fun _ => False) ((X.alloc o).alloc (.cells #[.int .i64 0, .int .i64 0, .int .i64 0, .int .i64 0, .int .i64 0, .int .i64 0] 46)).drew w' ∧ w'.heap[X.heap.size + 1]? = some (.cells #[.int .i64 0, .int .i64 0, .int .i64 0, .int .i64 0, .int .i64 0, .int .i64 0] 46)))
  generalize (d : Int) = dI at *
  generalize (n : Int) = nI at *
  go_enter Tryd.func82, Tryd.ntmps82
  go_wp2_with fail
  go_cut [3, 4] (fun v3 _ wx => ∃ BT, v3 = .pointer (some ⟨BT, 0, none⟩) ∧ wx.heap[w.heap.size]? = some (.cells #[.string ⟨#[]⟩, .int .i64 0, .int .i64 0, .int .i64 0, .int .i64 0, .int .i64 0, .int .i64 0, .int .u64 0, .int .u64 0, .int .u32 0, .int .u64 0, .bool false] 48) ∧ wx.heap[BT]? = some (.cells #[.int .i64 y, .int .i64 mo, .int .i64 dd, .int .i64 hh, .int .i64 mi, .int .i64 ss] 46) ∧ Touch (fun _ => False) w wx)
  case first =>
    go_region_with (first
      | (go_at_call 84; (with_reducible refine (H1.out _).mono ?_); rintro e w1 ⟨rfl, rfl⟩)
      | (go_at_call 84; (with_reducible refine (H2.out _).mono ?_); rintro e w1 ⟨rfl, rfl⟩)
      | (go_at_call 106; (with_reducible refine (HUA.out _ _).mono ?_); rintro e w1 ⟨rfl, ht1, hb1⟩; obtain ⟨c0, c1, c2, c3, c4, c5⟩ := row6 hb1; have hf1 := box_free hb1; have hl1 := row_lt hb1; have HB1 := Lib.hid hb1; clear hb1)
      | (go_at_call 106; (with_reducible refine (HU.out _).mono ?_); rintro e w1 ⟨rfl, ht1⟩))
    all_goals go_wp2_with fail
    all_goals
      go_meet
      first
      | with_reducible exact ⟨_, rfl, mannerB ht1⟩
      | with_reducible exact ⟨_, rfl, mannerA ht1 HB1.out⟩
  case rest =>
    obtain ⟨BT, rfl, hbx, hbt, hT⟩ := hcut
    obtain ⟨⟨c0, c1, c2, c3, c4, c5⟩, c6, c7, c8, c9, c10, c11⟩ := row12 hbx
    obtain ⟨t0, t1, t2, t3, t4, t5⟩ := row6 hbt
    have hfx := box_free hbx
    have hlx := row_lt hbx
    have HBX := Lib.hid hbx
    have HTT := Lib.hid hT
    clear hbx hbt hT HU HUA H1 H2
    go_wp2_with fail
    go_region_with (go_at_call 83; (with_reducible refine (H3.out _).mono ?_); rintro e w1 ⟨rfl, rfl⟩)
    all_goals
      go_wp2_with fail
      refine bodyPost_ret (results_cell_row rfl _ _ w.heap.size _ _ _ _ rfl (box_set12d HBX.out) Tryd.underlying48 rfl Tryd.sizeH) rfl ⟨rfl, ?_⟩
      exact (HTT.out.set12 (.inr (Nat.le_refl _)) _ _ _ _ _ _ _ _ _ _ _ _).drew
end Go.Proofs.YtdohhmaggeocjaaDoor
