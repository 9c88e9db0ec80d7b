/- Contracts: a new tree, and entering a place. -/
import Derived.Test.YtmhigecchligcaaDoorNamV
import Derived.Deep.CutBlock
import Derived.Deep.DeepCutAuto
import Derived.Deep.LoopGhost
namespace Go.Proofs.YtmhigecchligcaaDoor
open Go Go.RowKit Go.Maps Go.MapKept Go.ChangeMaps
set_option maxRecDepth 100000

theorem Tryd.infoB : (Tryd.prog.info? 4).map (fun i => (i.zero, i.size, i.bytes)) = some (some (.bool false), 1, 1) := by kernel_rfl
theorem Row.one {w : World} {g : Nat} {e : TypeId} {u : Value} (h : w.heap[g]? = some (.cells #[u] e (0, 0))) : Row w e (.slice (some ⟨g, 0, none⟩) 1 1) [u] :=
  .inr ⟨g, 0, 1, #[u], rfl, h, Nat.le_refl _, by decide, Nat.le_refl _, rfl⟩

theorem newTree_calls (w : World) : Calls Tryd.prog 25 #[] w fun e w' => ∃ tb mb fv, e = .returned (.pointer (some ⟨tb, 0, none⟩)) ∧ TrAt w' tb mb 0 w.heap.size fv [[]] [false] ∧ Touch (fun _ => False) w w' := by
  go_enter Tryd.func25, Tryd.ntmps25
  have hmm := @run_makeMap Tryd.prog
  go_wp2
  go_ret
  have hm : (w.alloc (.map #[] 0)).ownsMap Tryd.prog 64 (plainElem (H := Unit) Tryd.prog 3) w.heap.size 0 (.map []) := World.ownsMap_made w _ _ _
  have hr : ((w.alloc (.map #[] 0)).alloc (.cells #[.bool false] 4)).heap[w.heap.size + 1]? = some (.cells #[.bool false] 4 (0, 0)) := by
    have := heap_alloc_new (w.alloc (.map #[] 0)) (.cells #[.bool false] 4)
    rwa [World.size_alloc] at this
  have hb := Block.new ((w.alloc (.map #[] 0)).alloc (.cells #[.bool false] 4)) 60 [.map (some w.heap.size), .slice (some ⟨w.heap.size + 1, 0, none⟩) 1 1]
  have hT1 : Touch (fun _ => False) w (w.alloc (.map #[] 0)) := (Touch.refl _ _).alloc _
  have hT2 : Touch (fun _ => False) (w.alloc (.map #[] 0)) ((w.alloc (.map #[] 0)).alloc (.cells #[.bool false] 4)) := (Touch.refl _ _).alloc _
  have hT3 : Touch (fun _ => False) ((w.alloc (.map #[] 0)).alloc (.cells #[.bool false] 4)) (((w.alloc (.map #[] 0)).alloc (.cells #[.bool false] 4)).alloc (.cells [.map (some w.heap.size), .slice (some ⟨w.heap.size + 1, 0, none⟩) 1 1].toArray 60)) := (Touch.refl _ _).alloc _
  rw [World.size_alloc, World.size_alloc] at hb
  refine ⟨w.heap.size + 1 + 1, w.heap.size, .slice (some ⟨w.heap.size + 1, 0, none⟩) 1 1, rfl, ⟨hb, (Row.one hr).kept hT3 (fun _ _ => id), fun g hg => ?_, ⟨_, map_block (map_block hm (hT2.block _ (by rw [World.size_alloc]; omega) id)) (hT3.block _ (by rw [World.size_alloc, World.size_alloc]; omega) id), ⟨fun d k p t _ e2 => ?_, fun _ h => (by cases h)⟩⟩, TreeP.first, fun p t h => (by simp at h), rfl, ⟨by omega, by omega, by omega⟩, by simp⟩, hT1.trans (hT2.trans hT3)⟩
  · simp [Value.ownBlock] at hg
    omega
  · rcases k with _ | k
    · simp at e2
    · simp at e2

/-- A place that is there. -/
theorem enter_old {w : World} {tb mb n base : Nat} {fv : Value} {P : List Path} {F : List Bool} (h : TrAt w tb mb n base fv P F) (hb : P.length ≤ 1000000000) {d k : Nat} {q : Path} {t : ByteArray} (ht : t.size ≤ 65535) (hd : P[d]? = some q) (hk : P[k]? = some (q ++ [t.data.toList])) :
    Calls Tryd.prog 35 #[.pointer (some ⟨tb, 0, none⟩), .agg #[.int .i64 (d : Nat), .string t]] w fun e w' => e = .returned (.tuple #[.int .i64 (k : Nat), .bool false]) ∧ Touch (fun _ => False) w w' := by
  have hlook : ∀ W, Touch (fun _ => False) w W → (Instr.lookup 57 (.map (some mb)) (.agg #[.int .i64 (d : Nat), .string t]) true).run Tryd.prog W = .ok (.tuple #[.int .i64 (k : Nat), .bool true]) W := fun W hW => (h.still hW).look hb ht hd k true (.inl ⟨rfl, hk⟩)
  have c0 := Block.cell h.box 0
  obtain ⟨w1, hw1⟩ : ∃ w1, w.alloc (.cells #[.int .i64 (d : Nat), .string t] 64) = w1 := ⟨_, rfl⟩
  have hT1 : Touch (fun _ => False) w w1 := by rw [← hw1]; exact (Touch.refl _ _).alloc _
  have hl : ∀ q, (Instr.lookup 57 (.map (some mb)) (.agg #[.int .i64 (d : Nat), .string t]) true).run Tryd.prog (w1.drewN q) = .ok (.tuple #[.int .i64 (k : Nat), .bool true]) (w1.drewN q) := fun q => hlook _ (hT1.drewN q)
  have c1 := hT1.cell (p := ⟨tb, 0, none⟩) c0 id
  have hbx : Block w1 w.heap.size 64 [.int .i64 (d : Nat), .string t] := by rw [← hw1]; exact Block.new w _ _
  have b0 := Block.cell hbx 0
  have b1 := Block.cell hbx 1
  have HT1 := Lib.hid hT1
  clear hlook h hT1 hbx c0
  simp only [List.getElem?_cons_zero, List.getElem?_cons_succ] at b0 b1 c1
  go_enter Tryd.func35, Tryd.ntmps35
  go_upto_region 1 with fail
  go_quiet (fail)
  go_wp2_with fail
  go_ret2
  exact ⟨rfl, HT1.out.drewN _⟩

set_option maxHeartbeats 1000000 in
/-- A new place. -/
theorem enter_new {w : World} {tb mb n base : Nat} {fv : Value} {P : List Path} {F : List Bool} (h : TrAt w tb mb n base fv P F) (hb : P.length ≤ 999999999) {d : Nat} {q : Path} {t : ByteArray} (ht : t.size ≤ 65535) (hd : P[d]? = some q) (hn : q ++ [t.data.toList] ∉ P) :
    Calls Tryd.prog 35 #[.pointer (some ⟨tb, 0, none⟩), .agg #[.int .i64 (d : Nat), .string t]] w fun e w' => e = .returned (.tuple #[.int .i64 (P.length : Nat), .bool true]) ∧
      ∃ fv', TrAt w' tb mb (n + 1) base fv' (P ++ [q ++ [t.data.toList]]) (F ++ [false]) ∧ (fv'.ownBlock = fv.ownBlock ∨ ∃ g, fv'.ownBlock = some g ∧ w.heap.size ≤ g) ∧ Touch (fun k => k = tb ∨ k = mb ∨ fv.ownBlock = some k) w w' := by
  obtain ⟨i0, hi, hz0, hz1, hz2⟩ := info_parts Tryd.infoB
  have hlook : ∀ W, Touch (fun _ => False) w W → (Instr.lookup 57 (.map (some mb)) (.agg #[.int .i64 (d : Nat), .string t]) true).run Tryd.prog W = .ok (.tuple #[.int .i64 (0 : Nat), .bool false]) W := fun W hW => (h.still hW).look (by omega) ht hd 0 false (.inr ⟨rfl, rfl, hn⟩)
  have hstore : ∀ W, Touch (fun _ => False) w W → _ := fun W hW => (h.still hW).store (by omega) ht hd hn
  obtain ⟨w1, hw1⟩ : ∃ w1, w.alloc (.cells #[.int .i64 (d : Nat), .string t] 64) = w1 := ⟨_, rfl⟩
  have hT1 : Touch (fun _ => False) w w1 := by rw [← hw1]; exact (Touch.refl _ _).alloc _
  have hl : ∀ q, (Instr.lookup 57 (.map (some mb)) (.agg #[.int .i64 (d : Nat), .string t]) true).run Tryd.prog (w1.drewN q) = .ok (.tuple #[.int .i64 0, .bool false]) (w1.drewN q) := fun q => hlook _ (hT1.drewN q)
  obtain ⟨fa, fc, hfe, hfc, hfm⟩ := h.row.form
  rw [boolVs_length, h.len] at hfe hfc
  have hbx : Block w1 w.heap.size 64 [.int .i64 (d : Nat), .string t] := by rw [← hw1]; exact Block.new w _ _
  have HST := Lib.hid hstore
  have HN := Lib.hid hn
  have HD := Lib.hid hd
  have HT := Lib.hid h
  have hlt := h.lt
  clear hlook hstore hn h hd
  subst hfe
  obtain ⟨m, hm⟩ : ∃ m, P.length = m := ⟨_, rfl⟩
  rw [hm] at hfc hb HT HST ⊢
  have HM := Lib.hid hm
  clear hm
  have c0 := Block.cell (Block.kept HT.out.box hT1 id) 0
  have b0 := Block.cell hbx 0
  have b1 := Block.cell hbx 1
  have HT1 := Lib.hid hT1
  have HBX := Lib.hid hbx
  clear hT1 hbx
  simp only [List.getElem?_cons_zero, List.getElem?_cons_succ] at b0 b1 c0
  go_enter Tryd.func35, Tryd.ntmps35
  go_upto_region 1 with fail
  go_quiet (fail)
  obtain ⟨w2, hw2⟩ : ∃ w2, w1.drewN nq = w2 := ⟨_, rfl⟩
  have hT2 : Touch (fun _ => False) w w2 := by rw [← hw2]; exact HT1.out.drewN _
  have hT12 : Touch (fun _ => False) w1 w2 := by rw [← hw2]; exact (Touch.refl _ _).drewN _
  rw [hw2]
  have h2 := HT.out.still hT2
  have hbx2 := Block.kept HBX.out hT12 id
  have HT2 := Lib.hid hT2
  clear hl c0 b0 b1 hw2 hT2 hT12 HT1 HBX hw1
  have c0 := Block.cell h2.box 0
  have c1 := Block.cell h2.box 1
  have b0 := Block.cell hbx2 0
  have b1 := Block.cell hbx2 1
  simp only [List.getElem?_cons_zero, List.getElem?_cons_succ] at b0 b1 c0 c1
  have H2 := Lib.hid h2
  clear h2 hbx2
  go_upto_region 4 with fail
  obtain ⟨w3, hrun, hg3, D, hD1, hD2⟩ := HST.out w2.drew HT2.out.drew
  have HR3 := Lib.hid hD1
  have HM3 := Lib.hid hD2
  have hT3 : Touch (fun k => k = tb ∨ k = mb ∨ (Value.slice fa m fc).ownBlock = some k) w2 w3 := ((Touch.refl _ w2).drew).grown hg3 (fun k hk => .inl (.inr (.inl (Option.some.inj hk).symm)))
  have hT3' : Touch (fun k => k = mb) w2 w3 := ((Touch.refl _ w2).drew).grown hg3 (fun k hk => .inl (Option.some.inj hk).symm)
  have hbox3 := Block.kept H2.out.box hT3' (fun e => H2.out.lo.2.2 e)
  have hrow3 : Row w3 4 (.slice fa m fc) (boolVs F) := H2.out.row.kept hT3' (fun g hg e => (H2.out.own g hg).2.2 e)
  have hlt3 := hT3.size
  have hlt2 := HT2.out.size
  have hown3 : ∀ g, (Value.slice fa m fc).ownBlock = some g → base ≤ g ∧ g ≠ tb ∧ g ≠ mb := H2.out.own
  have HB3 := Lib.hid hbox3
  have HRW3 := Lib.hid hrow3
  have HT3 := Lib.hid hT3
  have HOW := Lib.hid hown3
  have hfl : F.length = m := by have := HT.out.len; have := HM.out; omega
  have HFL := Lib.hid hfl
  have c1 := Block.cell hbox3 1
  have f1 := Block.free hbox3 1
  simp only [List.getElem?_cons_zero, List.getElem?_cons_succ] at c1
  have c1' : (w3.alloc (.cells #[.bool false] 4)).cell? ⟨tb, 1, none⟩ = some (.slice fa m fc) := ((Touch.refl (fun _ => False) w3).alloc _).cell (p := ⟨tb, 1, none⟩) c1 id
  go_region
  clear hbox3 hrow3 hT3 hT3' hown3 hg3 hrun hD1 hD2 b0 b1 c0
  go_wp2_with (at_builtin; refine wpList_append_row _ rfl (.tmp 34) (.tmp 35) 58 58 rfl 4 i0 _ 1 Tryd.underlying58 hi hz0 hz1 hz2 rfl (.slice fa m fc) (boolVs F) rfl (by exact HRW3.out.kept (S := fun _ => False) ((Touch.refl _ _).alloc _) (fun _ _ => id)) (.slice (some ⟨w3.heap.size, 0, none⟩) 1 1) rfl 1 [.bool false] (by exact Src.ofCell Tryd.underlying58 (heap_alloc_new w3 _) rfl) (by rw [boolVs_length, HFL.out]; unfold maxLen; omega) (by rw [boolVs_length, HFL.out]; omega) ?_; intro v4 w4 hrow4 hgrow4 hown4; have hT4 := (((Touch.refl (fun k => k = tb ∨ k = mb ∨ (Value.slice fa m fc).ownBlock = some k) w3).alloc (.cells #[.bool false] 4)).grown hgrow4 (fun k hk => .inl (.inr (.inr hk)))); have hbk4 : Block w4 tb 60 [.map (some mb), .slice fa m fc] := (show w4.heap[tb]? = _ from (hgrow4.block tb (by have := Block.lt HB3.out; simp; omega) (fun e => (HOW.out tb e.symm).2.1 rfl)).trans (((Touch.refl (fun _ => False) w3).alloc (.cells #[.bool false] 4)).block tb (Block.lt HB3.out) id |>.trans HB3.out)); have d1 := Block.cell hbk4 1; have g1 := Block.free hbk4 1; simp only [List.getElem?_cons_zero, List.getElem?_cons_succ] at d1; obtain ⟨va, vc, hve, hvc, hvm⟩ := hrow4.form; subst hve; simp only [List.length_append, List.length_cons, List.length_nil, Nat.zero_add] at hown4 hrow4; have HG4 := Lib.hid hgrow4; have HR4 := Lib.hid hrow4; have HO4 := Lib.hid hown4; have HB4 := Lib.hid hbk4; have HT4 := Lib.hid hT4; clear hgrow4 hrow4 hown4 hbk4 hT4)
  go_ret2
  have hmb3 := HR3.out.lt
  have hne : ∀ g, (Value.slice va ((boolVs F).length + 1) vc).ownBlock = some g → base ≤ g ∧ g ≠ tb ∧ g ≠ mb := fun g hg => by
    rcases HO4.out with h4 | h4
    · rw [h4] at hg; exact HOW.out g hg
    · rw [h4] at hg
      have e := Option.some.inj hg
      simp at e
      have := H2.out.lo.1
      omega
  have hTs : Touch (fun k => k = tb) w4 (w4.setCell ⟨tb, 1, none⟩ (.slice va ((boolVs F).length + 1) vc)) := (Touch.refl (fun k => k = tb) w4).setCell (p := ⟨tb, 1, none⟩) (.inl rfl) _
  refine ⟨rfl, _, ⟨HB4.out.set 1 _, ?_, hne, ⟨D, map_block HR3.out ?_, HM3.out⟩, HT.out.tree.snoc HD.out HN.out, HT.out.small.snoc ht, by simp [HT.out.len], HT.out.lo, ?_⟩, ?_, (HT2.out.mono (fun _ e => e.elim)).trans (HT3.out.trans (HT4.out.setCell (p := ⟨tb, 1, none⟩) (.inl (.inl rfl)) _))⟩
  · have e : boolVs (F ++ [false]) = boolVs F ++ [.bool false] := by simp [boolVs]
    rw [e]
    exact HR4.out.kept hTs (fun g hg => (hne g hg).2.1)
  · have h1 := hTs.block mb (by have := HG4.out.size; simp at this; omega) (fun e => H2.out.lo.2.2 e.symm)
    have h2 := HG4.out.block mb (by simp; omega) (fun e => (HOW.out mb e.symm).2.2 rfl)
    exact (h1.trans h2).trans (((Touch.refl (fun _ => False) w3).alloc (.cells #[.bool false] 4)).block mb hmb3 id)
  · have := HT.out.hn
    have := HM.out
    simp
    omega
  · rcases HO4.out with h4 | h4
    · exact .inl h4
    · exact .inr ⟨_, h4, by simp; omega⟩
end Go.Proofs.YtmhigecchligcaaDoor
