
/- Tools: a region that draws its order and whose callees may make memory, walked once; two results, the first a struct. No program is named here. -/
import Derived.Test.YtoaeffinjpkahaaDoorMem
import Derived.Laws.Rows
import Derived.Laws.ResultCell
import Derived.BigQuiet
import Derived.Deep.QuietTactic
import Derived.Deep.RegionHeld3
import Derived.Deep.Cut
import Derived.Deep.CutBlock
namespace Go.Proofs.YtoaeffinjpkahaaDoor
set_option linter.unusedSimpArgs false
set_option linter.unusedVariables false
open Go Go.RowKit
set_option maxRecDepth 100000

/-- A world that differs from an earlier one in the blocks of S alone. -/
structure Wd (S : Nat → Prop) (w : World) where
  V : World
  ok : Touch S w V
instance (S : Nat → Prop) (w : World) : Nonempty (Wd S w) := ⟨⟨w, Touch.refl S w⟩⟩

theorem wp_region_quiet_touch {P : Program} {id : Nat} {Q : Exit → Act → World → Prop} {a : Act} {w : World} {l : List Oper} (S : Nat → Prop) (hm : P.follows .mixedOrders = true) (hB : Region.lexB .any l.toArray = true)
    (h : wpQuiet P l.toArray (fun w' => ∃ T : Wd S w, w' = T.V) (fun a' => ∀ w', (∃ T : Wd S w, w' = T.V) → Q .normal a' w') l a) : (Code.region id l.toArray true).wp P Q a w :=
  wp_region_quiet (C := fun w' => ∃ T : Wd S w, w' = T.V) hm hB ⟨⟨_, (Touch.refl S w).drew⟩, rfl⟩ (by simpa using h)

theorem quiet_touch {P : Program} {f : FuncId} {args : Array Value} {w : World} {S : Nat → Prop} {T : Wd S w} {v : Value}
    (h : Calls P f args T.V fun e w' => e = .returned v ∧ Touch (fun _ => False) T.V w') : Calls P f args T.V fun e w'' => e = .returned v ∧ ∃ T : Wd S w, w'' = T.V :=
  h.mono fun _ w' ⟨he, hm⟩ => ⟨he, ⟨w', T.ok.trans (hm.mono (fun _ h => h.elim))⟩, rfl⟩

theorem quiet_touch_same {P : Program} {f : FuncId} {args : Array Value} {w : World} {S : Nat → Prop} {T : Wd S w} {v : Value}
    (h : Calls P f args T.V fun e w' => e = .returned v ∧ T.V = w') : Calls P f args T.V fun e w'' => e = .returned v ∧ ∃ T : Wd S w, w'' = T.V :=
  h.mono fun _ _ ⟨he, hm⟩ => ⟨he, T, hm.symm⟩

theorem quiet_same {P : Program} {f : FuncId} {args : Array Value} {w : World} {n : Nat} {v : Value}
    (h : Calls P f args (w.drewN n) fun e w' => e = .returned v ∧ w.drewN n = w') : Calls P f args (w.drewN n) fun e w'' => e = .returned v ∧ ∃ m, w'' = w.drewN m :=
  h.mono fun _ _ ⟨he, hm⟩ => ⟨he, n, hm.symm⟩

theorem results_cell_slot {P : Program} {fn : Func} {p q : Tmp} {ty : TypeId} (h : fn.results = #[.cell p ty, .tmp q]) (tmps : Array Value) (w : World) (g : Nat) (t : TypeId) (cs : Array Value) (fr : Nat × Nat) (d : TypeDesc)
    (hp : tmps.getD p undef = .pointer (some ⟨g, 0, none⟩)) (hg : w.heap[g]? = some (.cells cs t fr))
    (hu : P.underlying ty = some d) (hd : (match d with | .struct _ | .array _ _ => true | _ => false) = true) (hi : (P.info? ty).map (·.size) = some cs.size) :
    (results fn tmps).run P w = .ok (.tuple #[.agg cs, tmps.getD q undef]) w := by
  have hp' : tmps[p]?.getD undef = .pointer (some ⟨g, 0, none⟩) := by simpa using hp
  simp [results, h, hp', asAddr, run_loadVar_row w g t ty cs fr d hg hu hd hi]
/-- A struct's box of six cells, as it was laid. -/
theorem box6 {w w1 : World} {t : TypeId} {x0 x1 x2 x3 x4 x5 : Value} (h : Touch (fun _ => False) (w.alloc (.cells #[x0, x1, x2, x3, x4, x5] t)) w1) :
    w1.cell? ⟨w.heap.size, 0, none⟩ = some x0 ∧ w1.cell? ⟨w.heap.size, 1, none⟩ = some x1 ∧ w1.cell? ⟨w.heap.size, 2, none⟩ = some x2 ∧ w1.cell? ⟨w.heap.size, 3, none⟩ = some x3 ∧
      w1.cell? ⟨w.heap.size, 4, none⟩ = some x4 ∧ w1.cell? ⟨w.heap.size, 5, none⟩ = some x5 ∧ w1.heap[w.heap.size]? = some (.cells #[x0, x1, x2, x3, x4, x5] t) ∧ w.heap.size < w1.heap.size := by
  have hl : w.heap.size < (w.alloc (.cells #[x0, x1, x2, x3, x4, x5] t)).heap.size := by show w.heap.size < (w.heap.push _).size; simp
  have hb : w1.heap[w.heap.size]? = some (.cells #[x0, x1, x2, x3, x4, x5] t) := by rw [h.block _ hl id]; exact heap_alloc_new w _
  refine ⟨?_, ?_, ?_, ?_, ?_, ?_, hb, Nat.lt_of_lt_of_le hl h.size⟩
  all_goals (rw [cell_of_row _ _ _ _ _ _ hb]; rfl)
theorem box_free {w : World} {b : Nat} {cs : Array Value} {t : TypeId} (h : w.heap[b]? = some (.cells cs t)) : ∀ k, w.frozen? ⟨b, k, none⟩ = false := fun k => by
  simp [World.frozen?, h]
/-- A row of six cells, cell by cell. -/
theorem row6 {w : World} {b : Nat} {x0 x1 x2 x3 x4 x5 : Value} {t : TypeId} (h : w.heap[b]? = some (.cells #[x0, x1, x2, x3, x4, x5] t)) :
    w.cell? ⟨b, 0, none⟩ = some x0 ∧ w.cell? ⟨b, 1, none⟩ = some x1 ∧ w.cell? ⟨b, 2, none⟩ = some x2 ∧ w.cell? ⟨b, 3, none⟩ = some x3 ∧ w.cell? ⟨b, 4, none⟩ = some x4 ∧ w.cell? ⟨b, 5, none⟩ = some x5 := by
  refine ⟨?_, ?_, ?_, ?_, ?_, ?_⟩
  all_goals (rw [cell_of_row _ _ _ _ _ _ h]; rfl)
theorem Touch.held {S : Nat → Prop} {w w' : World} {b : Nat} {o : Obj} (h : Touch S w w') (hb : w.heap[b]? = some o) (hn : ¬ S b) : w'.heap[b]? = some o :=
  (h.block b (Array.getElem?_eq_some_iff.1 hb).1 hn).trans hb
/-- A row of six cells, cell by cell, in every world of the kind. -/
theorem row6w {w0 : World} {b : Nat} {x0 x1 x2 x3 x4 x5 : Value} {t : TypeId} (h : w0.heap[b]? = some (.cells #[x0, x1, x2, x3, x4, x5] t)) :
    (∀ T : Wd (fun _ => False) w0, T.V.cell? ⟨b, 0, none⟩ = some x0) ∧ (∀ T : Wd (fun _ => False) w0, T.V.cell? ⟨b, 1, none⟩ = some x1) ∧ (∀ T : Wd (fun _ => False) w0, T.V.cell? ⟨b, 2, none⟩ = some x2) ∧
      (∀ T : Wd (fun _ => False) w0, T.V.cell? ⟨b, 3, none⟩ = some x3) ∧ (∀ T : Wd (fun _ => False) w0, T.V.cell? ⟨b, 4, none⟩ = some x4) ∧ (∀ T : Wd (fun _ => False) w0, T.V.cell? ⟨b, 5, none⟩ = some x5) := by
  refine ⟨fun T => ?_, fun T => ?_, fun T => ?_, fun T => ?_, fun T => ?_, fun T => ?_⟩
  all_goals (rw [cell_of_row _ _ _ _ _ _ (T.ok.held h id)]; rfl)
theorem row_lt {w : World} {b : Nat} {o : Obj} (h : w.heap[b]? = some o) : b < w.heap.size := (Array.getElem?_eq_some_iff.1 h).1
theorem alloc_size (w : World) (o : Obj) : (w.alloc o).heap.size = w.heap.size + 1 := by
  show (w.heap.push o).size = _
  simp
/-- .. of the second of two boxes. -/
theorem box6b {w w1 : World} {o : Obj} {t : TypeId} {x0 x1 x2 x3 x4 x5 : Value} (h : Touch (fun _ => False) ((w.alloc o).alloc (.cells #[x0, x1, x2, x3, x4, x5] t)) w1) :
    w1.cell? ⟨w.heap.size + 1, 0, none⟩ = some x0 ∧ w1.cell? ⟨w.heap.size + 1, 1, none⟩ = some x1 ∧ w1.cell? ⟨w.heap.size + 1, 2, none⟩ = some x2 ∧ w1.cell? ⟨w.heap.size + 1, 3, none⟩ = some x3 ∧
      w1.cell? ⟨w.heap.size + 1, 4, none⟩ = some x4 ∧ w1.cell? ⟨w.heap.size + 1, 5, none⟩ = some x5 ∧ w1.heap[w.heap.size + 1]? = some (.cells #[x0, x1, x2, x3, x4, x5] t) ∧ w.heap.size + 1 < w1.heap.size := by
  have := box6 h
  rwa [alloc_size] at this

theorem box_set6 {w : World} {b : Nat} {x0 x1 x2 x3 x4 x5 y0 y1 y2 y3 y4 y5 : Value} {t : TypeId} (h : w.heap[b]? = some (.cells #[x0, x1, x2, x3, x4, x5] t)) :
    ((((((w.setCell ⟨b, 0, none⟩ y0).setCell ⟨b, 1, none⟩ y1).setCell ⟨b, 2, none⟩ y2).setCell ⟨b, 3, none⟩ y3).setCell ⟨b, 4, none⟩ y4).setCell ⟨b, 5, none⟩ y5).heap[b]? = some (.cells #[y0, y1, y2, y3, y4, y5] t) :=
  heap_setCell_same y5 (heap_setCell_same y4 (heap_setCell_same y3 (heap_setCell_same y2 (heap_setCell_same y1 (heap_setCell_same y0 h)))))

theorem Touch.set6 {S : Nat → Prop} {a w : World} (h : Touch S a w) {b : Nat} (hp : S b ∨ a.heap.size ≤ b) (y0 y1 y2 y3 y4 y5 : Value) :
    Touch S a ((((((w.setCell ⟨b, 0, none⟩ y0).setCell ⟨b, 1, none⟩ y1).setCell ⟨b, 2, none⟩ y2).setCell ⟨b, 3, none⟩ y3).setCell ⟨b, 4, none⟩ y4).setCell ⟨b, 5, none⟩ y5) :=
  (((((h.setCell hp y0).setCell hp y1).setCell hp y2).setCell hp y3).setCell hp y4).setCell hp y5
end Go.Proofs.YtoaeffinjpkahaaDoor
