/- The reference of layer 25, fourth part: New. -/
import Derived.Test.YtimiiahhedpfaaaRvT
import Derived.Deep.OwnRows
namespace Go.Proofs.Ytimiiahhedpfaaa
open Go Go.RowKit Go.Maps Go.MapKept Go.ChangeMaps
set_option maxRecDepth 100000

theorem bR_none (b n : Nat) : (madeCells #[Value.bool false] n).toList = bR (fun _ => none) b n := by
  rw [toList_madeCells_one]
  unfold bR
  simp only [Option.isSome_none]
  rw [List.map_const', List.length_range]
theorem tR_none (b n : Nat) : (madeCells #[Value.string ⟨#[]⟩] n).toList = tR (fun _ => none) b n := by
  rw [toList_madeCells_one]
  unfold tR
  simp only [Option.getD_none]
  rw [List.map_const', List.length_range]
theorem made_rowR {W : World} {g n : Nat} {e : TypeId} {u : Value} {xs : List Value} (hn : n ≤ 64) (hx : (madeCells #[u] n).toList = xs) (hl : xs.length = n) (h : W.heap[g]? = some (.cells (madeCells #[u] n) e (0, 0))) : Row W e (.slice (some ⟨g, 0, none⟩) n n) xs := by
  have hs : (madeCells #[u] n).size = n := by rw [← Array.length_toList, hx, hl]
  refine .inr ⟨g, 0, n, _, by rw [hl], h, by rw [hl]; exact Nat.le_refl _, by unfold maxLen; omega, by rw [hs]; omega, ?_⟩
  rw [List.drop_zero, hx, hl]
  exact List.take_of_length_le (Nat.le_of_eq hl)

theorem rrnew_end {w W0 : World} {rb f sz b g3 g4 : Nat} (hR : MBox W0 rb 0 (.slice none 0 0) (.slice none 0 0)) (h3 : Row W0 9 (.slice (some ⟨g3, 0, none⟩) sz sz) (tR (fun _ => none) b sz))
    (h4 : Row W0 4 (.slice (some ⟨g4, 0, none⟩) sz sz) (bR (fun _ => none) b sz)) (n3 : rb < g3) (n4 : rb < g4) (hw : w.heap.size ≤ rb) (hT : Touch (fun _ => False) w W0) :
    MBox (((W0.setCell ⟨rb, 0, none⟩ (.int .u32 (f : Nat))).setCell ⟨rb, 1, none⟩ (.slice (some ⟨g3, 0, none⟩) sz sz)).setCell ⟨rb, 2, none⟩ (.slice (some ⟨g4, 0, none⟩) sz sz)).drew rb (f : Nat) (.slice (some ⟨g3, 0, none⟩) sz sz) (.slice (some ⟨g4, 0, none⟩) sz sz) ∧
    Reads (((W0.setCell ⟨rb, 0, none⟩ (.int .u32 (f : Nat))).setCell ⟨rb, 1, none⟩ (.slice (some ⟨g3, 0, none⟩) sz sz)).setCell ⟨rb, 2, none⟩ (.slice (some ⟨g4, 0, none⟩) sz sz)).drew (.slice (some ⟨g3, 0, none⟩) sz sz) (tR (fun _ => none) b sz) ∧
    Reads (((W0.setCell ⟨rb, 0, none⟩ (.int .u32 (f : Nat))).setCell ⟨rb, 1, none⟩ (.slice (some ⟨g3, 0, none⟩) sz sz)).setCell ⟨rb, 2, none⟩ (.slice (some ⟨g4, 0, none⟩) sz sz)).drew (.slice (some ⟨g4, 0, none⟩) sz sz) (bR (fun _ => none) b sz) ∧
    NewR w (.slice (some ⟨g3, 0, none⟩) sz sz) ∧ NewR w (.slice (some ⟨g4, 0, none⟩) sz sz) ∧
    Touch (fun _ => False) w (((W0.setCell ⟨rb, 0, none⟩ (.int .u32 (f : Nat))).setCell ⟨rb, 1, none⟩ (.slice (some ⟨g3, 0, none⟩) sz sz)).setCell ⟨rb, 2, none⟩ (.slice (some ⟨g4, 0, none⟩) sz sz)).drew := by
  have hT8 := (m_touch3 (w := W0) rb (.int .u32 (f : Nat)) (.slice (some ⟨g3, 0, none⟩) sz sz) (.slice (some ⟨g4, 0, none⟩) sz sz)).drew
  refine ⟨(m_set3 hR).kept (Touch.refl (fun _ => False) _).drew id, (h3.kept hT8 (fun g hg e => ?_)).reads, (h4.kept hT8 (fun g hg e => ?_)).reads, fun g hg => ?_, fun g hg => ?_, new_touch ((hT.mono (fun j e => e.elim)).trans (hT8.mono (fun j e => by omega)))⟩
  all_goals (simp [Value.ownBlock] at hg; omega)
theorem alloc_two (w : World) (a b : Obj) : ((w.alloc a).alloc b).heap[w.heap.size]? = some a ∧ ((w.alloc a).alloc b).heap[w.heap.size + 1]? = some b := by
  refine ⟨?_, ?_⟩
  · rw [((Touch.refl (fun _ => False) (w.alloc a)).alloc b).block _ (by rw [alloc_size]; omega) id]
    exact heap_alloc_new w a
  · rw [← alloc_size w a]
    exact heap_alloc_new _ b

set_option maxHeartbeats 4000000 in
theorem rrnew_calls (f sz b : Nat) (hz1 : 1 ≤ sz) (hz2 : sz ≤ 32) (w : World) :
    Calls Try.prog 13 #[.int .u32 (f : Nat), .int .i64 (sz : Nat)] w fun e w' =>
      ∃ v3 v4, e = .returned (.agg #[.int .u32 (f : Nat), v3, v4]) ∧ Reads w' v3 (tR (fun _ => none) b sz) ∧ Reads w' v4 (bR (fun _ => none) b sz) ∧ NewR w v3 ∧ NewR w v4 ∧ Touch (fun _ => False) w w' := by
  have hmb : ∀ W, (Instr.makeSlice 30 (.int .i64 (sz : Int)) (.int .i64 (sz : Int))).run Try.prog W = .ok (.slice (some ⟨W.heap.size, 0, none⟩) sz sz) (W.alloc (.cells (madeCells #[.bool false] sz) 4)) :=
    fun W => run_make_row' _ _ _ 1 Try.underlying30 Try.infoR5b rfl .i64 .i64 sz (by omega) (by omega) W
  have hms : ∀ W, (Instr.makeSlice 29 (.int .i64 (sz : Int)) (.int .i64 (sz : Int))).run Try.prog W = .ok (.slice (some ⟨W.heap.size, 0, none⟩) sz sz) (W.alloc (.cells (madeCells #[.string ⟨#[]⟩] sz) 9)) :=
    fun W => run_make_row' _ _ _ 16 Try.underlying29 Try.infoR5s rfl .i64 .i64 sz (by omega) (by omega) W
  go_enter Try.func13, Try.ntmps13
  go_upto_region 1 with fail
  obtain ⟨rb, hrb⟩ : ∃ x, x = w.heap.size := ⟨_, rfl⟩
  rw [← hrb]
  generalize hw1 : w.alloc _ = w1
  have hR1 : MBox w1 rb 0 (.slice none 0 0) (.slice none 0 0) := by rw [← hw1, hrb]; exact Block.new _ _ _
  have hT1 : Touch (fun _ => False) w w1 := by rw [← hw1]; exact (Touch.refl _ w).alloc _
  have hs1 := hT1.size
  have hlr : rb < w1.heap.size := Block.lt hR1
  have hR2 : MBox ((w1.alloc (.cells (madeCells #[.string ⟨#[]⟩] sz) 9)).alloc (.cells (madeCells #[.bool false] sz) 4)) rb 0 (.slice none 0 0) (.slice none 0 0) := hR1.kept (((Touch.refl (fun _ => False) w1).alloc _).alloc _) id
  obtain ⟨b10, b11, b12⟩ := hR2.cells
  have d10 := Block.free hR2 0
  have d11 := Block.free hR2 1
  have d12 := Block.free hR2 2
  have HR2 := Lib.hid hR2
  clear hR2
  have hR3 : MBox ((w1.alloc (.cells (madeCells #[.string ⟨#[]⟩] sz) 9)).alloc (.cells (madeCells #[.bool false] sz) 4)).drew rb 0 (.slice none 0 0) (.slice none 0 0) := hR1.kept (((Touch.refl (fun _ => False) w1).alloc _).alloc _).drew id
  obtain ⟨b20, b21, b22⟩ := hR3.cells
  have d20 := Block.free hR3 0
  have d21 := Block.free hR3 1
  have d22 := Block.free hR3 2
  have HR3 := Lib.hid hR3
  clear hR3
  have hR4 : MBox ((w1.alloc (.cells (madeCells #[.bool false] sz) 4)).alloc (.cells (madeCells #[.string ⟨#[]⟩] sz) 9)) rb 0 (.slice none 0 0) (.slice none 0 0) := hR1.kept (((Touch.refl (fun _ => False) w1).alloc _).alloc _) id
  obtain ⟨b30, b31, b32⟩ := hR4.cells
  have d30 := Block.free hR4 0
  have d31 := Block.free hR4 1
  have d32 := Block.free hR4 2
  have HR4 := Lib.hid hR4
  clear hR4
  have hR5 : MBox ((w1.alloc (.cells (madeCells #[.bool false] sz) 4)).alloc (.cells (madeCells #[.string ⟨#[]⟩] sz) 9)).drew rb 0 (.slice none 0 0) (.slice none 0 0) := hR1.kept (((Touch.refl (fun _ => False) w1).alloc _).alloc _).drew id
  obtain ⟨b40, b41, b42⟩ := hR5.cells
  have d40 := Block.free hR5 0
  have d41 := Block.free hR5 1
  have d42 := Block.free hR5 2
  have HR5 := Lib.hid hR5
  clear hR5
  have HRB := Lib.hid (⟨hrb, hR1, hT1, hs1, hlr⟩ : _ ∧ _ ∧ _ ∧ _ ∧ _)
  clear hrb hR1 hT1 hs1 hlr hw1
  go_region
  all_goals
    obtain ⟨hrb, hR1, hT1, hs1, hlr⟩ := HRB.out
    go_wp2_with fail
  · obtain ⟨q0, q1⟩ := alloc_two w1 (.cells (madeCells #[.string ⟨#[]⟩] sz) 9) (.cells (madeCells #[.bool false] sz) 4)
    obtain ⟨r1, r2, r3, r4, r5, r6⟩ := rrnew_end (w := w) (f := f) HR2.out (made_rowR (by omega) (tR_none b sz) (tR_len _ _ _) q0) (made_rowR (by omega) (bR_none b sz) (bR_len _ _ _) q1) (by omega) (by omega) (by omega) ((hT1.alloc _).alloc _)
    exact bodyPost_ret (results_cell_row rfl _ _ rb _ _ _ _ rfl r1 Try.underlying32 rfl Try.sizeR5) rfl ⟨_, _, rfl, r2, r3, r4, r5, r6⟩
  · obtain ⟨q0, q1⟩ := alloc_two w1 (.cells (madeCells #[.bool false] sz) 4) (.cells (madeCells #[.string ⟨#[]⟩] sz) 9)
    obtain ⟨r1, r2, r3, r4, r5, r6⟩ := rrnew_end (w := w) (f := f) HR4.out (made_rowR (by omega) (tR_none b sz) (tR_len _ _ _) q1) (made_rowR (by omega) (bR_none b sz) (bR_len _ _ _) q0) (by omega) (by omega) (by omega) ((hT1.alloc _).alloc _)
    exact bodyPost_ret (results_cell_row rfl _ _ rb _ _ _ _ rfl r1 Try.underlying32 rfl Try.sizeR5) rfl ⟨_, _, rfl, r2, r3, r4, r5, r6⟩
end Go.Proofs.Ytimiiahhedpfaaa
