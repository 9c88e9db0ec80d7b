
/- The contract of package name's check. -/
import Derived.Test.YtmhigecchligcaaDoorNamB
namespace Go.Proofs.YtmhigecchligcaaDoor
open Go Go.RowKit Go.Shelf
set_option maxRecDepth 100000
attribute [local go_sem] Oper.semAt_some

/-- May a part stand in a name? -/
def goodPart (t : ByteArray) : Bool := !(t.toList.isEmpty || (t.toList == [46] || t.toList == [46, 46]))
/-- May a text be a name? -/
def checkB (S : ByteArray) : Bool := decide (S.size ≤ 65535) && (Lib.validD S.data.toList && (!barB S && (ptsA S 0).all fun x => goodPart x.t))

theorem part_ways (t : ByteArray) : (t.toList.isEmpty = true ∧ goodPart t = false) ∨ (t.toList.isEmpty = false ∧ (t.toList == [46]) = true ∧ goodPart t = false) ∨
    (t.toList.isEmpty = false ∧ (t.toList == [46]) = false ∧ (t.toList == [46, 46]) = true ∧ goodPart t = false) ∨ (t.toList.isEmpty = false ∧ (t.toList == [46]) = false ∧ (t.toList == [46, 46]) = false ∧ goodPart t = true) := by
  unfold goodPart
  cases t.toList.isEmpty <;> cases (t.toList == [46]) <;> cases (t.toList == [46, 46]) <;> simp

theorem results_cell1 {P : Program} {fn : Func} {p : Tmp} {ty : TypeId} {k : IntKind} (h : fn.results = #[.cell p ty]) (tmps : Array Value) (w : World) (a : Addr) (v : Value)
    (hp : tmps.getD p undef = .pointer (some a)) (hc : w.cell? a = some v) (hu : P.underlying ty = some (.int k)) : (results fn tmps).run P w = .ok v w := by
  have hp' : tmps[p]?.getD undef = .pointer (some a) := by simpa using hp
  simp [results, h, hp', asAddr, loadVar, isAgg, Sem.run_bind, run_underlying hu w, go_sem, hc]

theorem Tabs.kept {w w' : World} (h : Tabs w) (ht : Touch (fun _ => False) w w') : Tabs w' :=
  ⟨fun c hc => ht.cell (h.1 c hc) id, fun i hi => ⟨ht.cell (h.2 i hi).1 id, ht.cell (h.2 i hi).2 id⟩⟩

set_option maxHeartbeats 1000000 in
theorem check_parts (S : ByteArray) (w : World) (h1 : S.size ≤ 65535) (h2 : Lib.validD S.data.toList = true) (h3 : barB S = false) (hT : Tabs w) : Calls Tryd.prog 9 #[.string S] w fun e w' => e = .returned (.int .i64 (if (ptsA S 0).all (fun x => goodPart x.t) then 0 else 9)) ∧ Touch (fun _ => False) w w' := by
  have HV := Lib.hid (fun W (h : Tabs W) => (by have := valid_calls S W (by omega) h; rwa [h2] at this : Calls Tryd.prog 20 #[.string S] W fun e w' => e = .returned (.bool true) ∧ Touch (fun _ => False) W w'))
  have HC := Lib.hid (fun W => (by have := contains_calls S W; rwa [h3] at this : Calls Tryd.prog 21 #[.string S, .func (.func 22) #[] #[]] W fun e w' => e = .returned (.bool false) ∧ Touch (fun _ => False) W w'))
  have hs : (S.size : Int) ≤ 65535 := by omega
  obtain ⟨r, hr⟩ : ∃ r : Int, (if (ptsA S 0).all (fun x => goodPart x.t) then 0 else 9) = r := ⟨_, rfl⟩
  rw [hr]
  have HR := Lib.hid hr
  clear h2 h3 hr
  refine (callsIn_wide (n := 3)).1 ?_
  refine callsIn_of_wp_marks Tryd.func9 rfl trivial ?_ rfl
  simp only [Tryd.ntmps9, List.size_toArray, List.length_cons, List.length_nil, Nat.reduceAdd, Nat.reduceSub, Array.replicate_succ, Array.replicate_zero, List.push_toArray, List.append_toArray, List.nil_append, List.cons_append]
  have hd : decide ((65535 : Int) < (S.size : Int)) = false := by simp; omega
  gi_wp2_with (first
    | (refine ⟨trivial, ?_⟩; gi_at_call 20; refine (callsIn_wide.2 (HV.out _ (hT.kept ((Touch.refl _ _).alloc _)))).mono ?_; rintro e w1 ⟨rfl, ht1⟩)
    | (refine ⟨trivial, ?_⟩; gi_at_call 21; refine (callsIn_wide.2 (HC.out _)).mono ?_; rintro e w2 ⟨rfl, ht2⟩)
    | (refine ⟨trivial, ?_⟩; gi_at_call 23; refine (parts_in _ S).mono ?_; rintro e w3 ⟨rfl, rfl⟩))
  have hl1 : w.heap.size < w1.heap.size := by have := ht1.size; simp at this; omega
  have hl2 : w.heap.size < w2.heap.size := Nat.lt_of_lt_of_le hl1 ht2.size
  have hr2 : w2.heap[w.heap.size]? = some (.cells #[.int .i64 0] 23) := (ht1.trans ht2).held (heap_alloc_new w _) id
  have hb2 : Below w.heap.size w w2 := ((Touch.refl (fun _ => False) w).alloc _ |>.trans (ht1.trans ht2)).below (Nat.le_refl _) (fun _ h => h.elim)
  clear ht1 ht2 HV HC hd
  obtain ⟨W0, hW0⟩ : ∃ W0, w2.alloc (.cells #[.string S] 9) = W0 := ⟨_, rfl⟩
  have hz0 : W0.heap.size = w2.heap.size + 1 := by rw [← hW0]; simp
  have hbx : W0.cell? ⟨w2.heap.size, 0, none⟩ = some (.string S) := by rw [← hW0]; rw [cell_of_row _ _ _ _ _ _ (heap_alloc_new w2 _)]; rfl
  have hr0 : W0.heap[w.heap.size]? = some (.cells #[.int .i64 0] 23) := by rw [← hW0]; exact ((Touch.refl (fun _ => False) w2).alloc _).held hr2 id
  have hb0 : Below w.heap.size w W0 := by rw [← hW0]; exact hb2.alloc (by omega) _
  have hrc : W0.cell? ⟨w.heap.size, 0, none⟩ = some (.int .i64 0) := by rw [cell_of_row _ _ _ _ _ _ hr0]; rfl
  have hrf : W0.frozen? ⟨w.heap.size, 0, none⟩ = false := box_free hr0 0
  rw [hW0]
  clear hW0 hr0 hr2 hb2
  refine wpIn_rangeFunc_ownG (α := Pt S) rfl (by omega) (gf := 33) (lb := #[.pointer (some ⟨w2.heap.size, 0, none⟩)]) rfl trivial (enters_of Tryd.func33 (by kernel_rfl) rfl)
    (parts_stops (3 - 1) (by omega) S (by omega) w2.heap.size W0 (Below W0.heap.size) (fun A B h hc => (h.cell (p := ⟨w2.heap.size, 0, none⟩) (show w2.heap.size < W0.heap.size by omega)).trans hc) (by omega) hbx)
    belowK_t (belowK_b (Nat.le_refl _)) (Below.refl _ _) (fun _ => rfl)
    (fun pre W => ((∀ x ∈ pre, goodPart x.t = true) ∧ W.cell? ⟨w.heap.size, 0, none⟩ = some (.int .i64 0) ∧ W.frozen? ⟨w.heap.size, 0, none⟩ = false) ∧ Below w.heap.size w W)
    (fun c pre W => ((c = .ret ∧ ∃ x ∈ pre, goodPart x.t = false) ∧ W.cell? ⟨w.heap.size, 0, none⟩ = some (.int .i64 9)) ∧ Below w.heap.size w W)
    ?own ?ownx ⟨⟨by simp, hrc, hrf⟩, hb0⟩
    (fun x => { tmps := #[.string S, undef, .pointer (some ⟨w.heap.size, 0, none⟩), undef, .string x.t, .string S, .int .i64 (S.size : Nat), .bool false, .bool false, .string S, .bool true, .bool false, .bool false, .bool false, .string S, .bool false, .bool false, .string S, .func (.func 33) #[] #[.pointer (some ⟨w2.heap.size, 0, none⟩)], .int .i64 (x.e : Nat), .string x.t, undef, undef, undef, undef, undef, undef, undef, undef, undef, undef], defers := [] }) ?assign ?body ?done ?stop
  case own =>
    refine OwnFrom.and (Own.from (fun s A B row hs hg hr => ⟨hs.1, cell_kept hs.2.1 hg hr, (frozen_kept hs.2.1 hg hr).trans hs.2.2⟩) _) (ownFrom_below (Nat.le_refl _) (by omega))
  case ownx =>
    intro c
    refine OwnFrom.and (Own.from (fun s A B row hs hg hr => ⟨hs.1, cell_kept hs.2 hg hr⟩) _) (ownFrom_below (Nat.le_refl _) (by omega))
  case assign =>
    intro l x W K hK
    dsimp only [ptV]
    gi_wp2
    exact hK
  case body =>
    rintro l pre x W ⟨⟨hg, hc, hf⟩, hB⟩ _
    have HG := Lib.hid hg
    have HB := Lib.hid hB
    clear hg hB hbx hrc hrf hb0 hl1 hl2 hz0 h1 hs hT
    obtain ⟨t, ht⟩ : ∃ t, x.t = t := ⟨_, rfl⟩
    have HW := Lib.hid (part_ways t)
    have HXT := Lib.hid ht
    simp only [ht]
    clear ht
    rcases HW.out with ⟨g1, g4⟩ | ⟨g1, g2, g4⟩ | ⟨g1, g2, g3, g4⟩ | ⟨g1, g2, g3, g4⟩
    · have G4 := Lib.hid g4
      clear g4
      gi_wp2
      exact ⟨(KeepsOthers.setCell _ _ _).from _, ⟨⟨rfl, x, by simp, by rw [HXT.out]; exact G4.out⟩, World.cell?_setCell_same _ _ _ hc⟩, HB.out.setCell (by simp) _⟩
    · have G4 := Lib.hid g4
      clear g4
      gi_wp2
      exact ⟨(KeepsOthers.setCell _ _ _).from _, ⟨⟨rfl, x, by simp, by rw [HXT.out]; exact G4.out⟩, World.cell?_setCell_same _ _ _ hc⟩, HB.out.setCell (by simp) _⟩
    · have G4 := Lib.hid g4
      clear g4
      gi_wp2
      exact ⟨(KeepsOthers.setCell _ _ _).from _, ⟨⟨rfl, x, by simp, by rw [HXT.out]; exact G4.out⟩, World.cell?_setCell_same _ _ _ hc⟩, HB.out.setCell (by simp) _⟩
    · have G4 := Lib.hid g4
      clear g4
      gi_wp2
      refine ⟨(KeepsOthers.refl _).from _, Below.refl _ _, ⟨fun u hu => ?_, hc, hf⟩, HB.out⟩
      rcases List.mem_append.1 hu with h | h
      · exact HG.out u h
      · obtain rfl : u = x := by simpa using h
        rw [HXT.out]; exact G4.out
  case done =>
    rintro D ys W hD hys ⟨⟨hg, hc, hf⟩, hB⟩ hK
    have HG := Lib.hid hg
    have HB := Lib.hid hB
    have HY := Lib.hid hys
    clear hg hB hys hbx hrc hrf hb0
    have hr0 : r = 0 := by
      rw [← HR.out, if_pos]
      rw [List.all_eq_true]
      intro x hx
      exact HG.out x (by rw [HY.out]; exact hx)
    subst hr0
    clear HR
    gi_wp2
    have hK' := (KeepsOthers.setCell W ⟨w.heap.size, 0, none⟩ (.int .i64 0)).same D _ hK rfl
    have hc' := World.cell?_setCell_same W ⟨w.heap.size, 0, none⟩ (.int .i64 0) hc
    refine ⟨by simp, .inl ⟨_, _, rfl, run_takeDeferred hK', ?_⟩⟩
    refine ⟨_, results_cell1 rfl _ _ ⟨w.heap.size, 0, none⟩ _ rfl (cell_kept hc' (grownBy_putObj' _ D (.deferred none)) (fun r e => by cases e; exact ⟨_, hK', rfl⟩)) Tryd.underlying23, rfl, ?_⟩
    exact Touch.of_below ((HB.out.setCell (by simp) _).trans (belowK_b (w := W0) (by omega) _ D _ _ hD hK' rfl rfl))
  case stop =>
    rintro D c pre W hD hpre ⟨⟨⟨rfl, x, hx, hgx⟩, hc⟩, hB⟩ hK
    have HB := Lib.hid hB
    have hr9 : r = 9 := by
      rw [← HR.out, if_neg]
      rw [List.all_eq_true]
      intro h
      have := h x (hpre.subset hx)
      rw [hgx] at this
      cases this
    subst hr9
    clear HR hgx hB hx hpre hbx hrc hrf hb0
    gi_wp2
    refine ⟨by simp, .inl ⟨_, _, rfl, run_takeDeferred hK, ?_⟩⟩
    refine ⟨_, results_cell1 rfl _ _ ⟨w.heap.size, 0, none⟩ _ rfl (cell_kept hc (grownBy_putObj' _ D (.deferred none)) (fun r e => by cases e; exact ⟨_, hK, rfl⟩)) Tryd.underlying23, rfl, ?_⟩
    exact Touch.of_below (HB.out.trans (belowK_b (w := W0) (by omega) _ D _ _ hD hK rfl rfl))
end Go.Proofs.YtmhigecchligcaaDoor
