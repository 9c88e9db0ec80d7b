
/- Slices that are only read (Reads), blocks whose cells are a list (Block: arrays, structs), and the loads and stores of whole arrays. No program is named here. -/
import Derived.Test.YtoaeffinjpkahaaDoorMem
import Derived.Laws.Rows
import Derived.Laws.Tables
import Derived.Deep.Slices
namespace Go.Proofs.YtoaeffinjpkahaaDoor
set_option linter.unusedSimpArgs false
set_option linter.unusedVariables false
open Go Go.RowKit
set_option maxRecDepth 100000

/-- A slice whose elements have one cell each, to be read alone. -/
def Reads (w : World) (v : Value) (xs : List Value) : Prop :=
  ∃ a cap, v = .slice a xs.length cap ∧ xs.length ≤ cap ∧ cap ≤ maxLen ∧ (xs = [] ∨ ∃ g off, a = some ⟨g, off, none⟩ ∧ ∀ j u, xs[j]? = some u → w.cell? ⟨g, off + j, none⟩ = some u)

theorem Row.reads {w : World} {e : TypeId} {v : Value} {xs : List Value} (h : Row w e v xs) : Reads w v xs := by
  have h0 := h
  rcases h with ⟨rfl, rfl⟩ | ⟨g, off, cap, cur, rfl, hh, h1, h2, h3, h4⟩
  · exact ⟨none, 0, rfl, Nat.le_refl _, Nat.zero_le _, .inl rfl⟩
  · exact ⟨_, cap, rfl, h1, h2, .inr ⟨g, off, rfl, h0.cells.2⟩⟩

theorem Reads.kept {S : Nat → Prop} {w w' : World} {v : Value} {xs : List Value} (h : Reads w v xs) (ht : Touch S w w') (hn : ∀ g, v.ownBlock = some g → ¬ S g) : Reads w' v xs := by
  obtain ⟨a, cap, rfl, h1, h2, h3⟩ := h
  refine ⟨a, cap, rfl, h1, h2, ?_⟩
  rcases h3 with h3 | ⟨g, off, rfl, h4⟩
  · exact .inl h3
  · exact .inr ⟨g, off, rfl, fun j u hu => ht.cell (h4 j u hu) (hn g rfl)⟩
theorem Reads.still {w w' : World} {v : Value} {xs : List Value} (h : Reads w v xs) (ht : Touch (fun _ => False) w w') : Reads w' v xs := h.kept ht (fun _ _ => id)

theorem Reads.form {w : World} {v : Value} {xs : List Value} (h : Reads w v xs) : ∃ a cap, v = .slice a xs.length cap ∧ xs.length ≤ cap ∧ cap ≤ maxLen := by
  obtain ⟨a, cap, h0, h1, h2, _⟩ := h
  exact ⟨a, cap, h0, h1, h2⟩

theorem Reads.addr {w : World} {v : Value} {xs : List Value} (h : Reads w v xs) (hn : 0 < xs.length) :
    ∃ g off cap, v = .slice (some ⟨g, off, none⟩) xs.length cap ∧ xs.length ≤ cap ∧ cap ≤ maxLen ∧ g < w.heap.size ∧ (∀ j u, xs[j]? = some u → w.cell? ⟨g, off + j, none⟩ = some u) := by
  obtain ⟨a, cap, rfl, h1, h2, h3⟩ := h
  rcases h3 with rfl | ⟨g, off, rfl, h4⟩
  · simp at hn
  · exact ⟨g, off, cap, rfl, h1, h2, World.block_lt_of_cell? w _ (h4 0 _ (List.getElem?_eq_getElem hn)), h4⟩

/-- The first q of them. -/
theorem Reads.upto {w : World} {a : Option Addr} {n cap q : Nat} {xs : List Value} (h : Reads w (.slice a n cap) xs) (hq : q ≤ n) : Reads w (.slice a q cap) (xs.take q) := by
  obtain ⟨a', cap', he, h1, h2, h3⟩ := h
  cases he
  have hl : (xs.take q).length = q := by rw [List.length_take]; omega
  refine ⟨a, cap, by rw [hl], by omega, h2, ?_⟩
  rcases h3 with rfl | ⟨g, off, rfl, h4⟩
  · exact .inl (by simp)
  · refine .inr ⟨g, off, rfl, fun j u hu => h4 j u ?_⟩
    rw [List.getElem?_take] at hu
    split at hu
    · exact hu
    · cases hu

theorem Reads.src {P : Program} {w : World} {tx e : TypeId} {v : Value} {xs : List Value} (h : Reads w v xs) (hk : P.underlying tx = some (.slice e)) (h1 : ∀ u ∈ xs, u.oneCell' = true) : Src P 1 tx v xs.length xs w := by
  obtain ⟨a, cap, rfl, _, _, h3⟩ := h
  rcases h3 with rfl | ⟨g, off, rfl, h4⟩
  · cases a with
    | none => exact Src.ofNil w hk cap
    | some a => exact Src.ofSlice w hk a 0 cap [] rfl (fun j u hu => by simp at hu) (fun u hu => by cases hu)
  · refine Src.ofSlice w hk ⟨g, off, none⟩ xs.length cap xs (by simp) (fun j u hu => ?_) h1
    have := h4 j u hu
    by_cases hj : j = 0
    · subst hj; simpa [Addr.add] using this
    · simpa [Addr.add, hj] using this

/-- A block of cells that nothing freezes. -/
def Block (w : World) (b : Nat) (t : TypeId) (xs : List Value) : Prop := w.heap[b]? = some (.cells xs.toArray t (0, 0))

theorem Block.cell {w : World} {b : Nat} {t : TypeId} {xs : List Value} (h : Block w b t xs) (j : Nat) : w.cell? ⟨b, j, none⟩ = xs[j]? := by
  rw [cell_of_row _ _ _ _ _ _ h]; simp
theorem Block.free {w : World} {b : Nat} {t : TypeId} {xs : List Value} (h : Block w b t xs) (j : Nat) : w.frozen? ⟨b, j, none⟩ = false := by
  unfold Block at h; simp [World.frozen?, h]
theorem Block.lt {w : World} {b : Nat} {t : TypeId} {xs : List Value} (h : Block w b t xs) : b < w.heap.size := (Array.getElem?_eq_some_iff.1 h).1
theorem Block.kept {S : Nat → Prop} {w w' : World} {b : Nat} {t : TypeId} {xs : List Value} (h : Block w b t xs) (ht : Touch S w w') (hn : ¬ S b) : Block w' b t xs := by
  unfold Block
  rw [ht.block b h.lt hn]; exact h
theorem Block.set {w : World} {b : Nat} {t : TypeId} {xs : List Value} (h : Block w b t xs) (k : Nat) (u : Value) : Block (w.setCell ⟨b, k, none⟩ u) b t (xs.set k u) := by
  have := heap_setCell_same (k := k) u h
  unfold Block
  rw [this]
  simp
theorem Block.new (w : World) (t : TypeId) (xs : List Value) : Block (w.alloc (.cells xs.toArray t)) w.heap.size t xs := heap_alloc_new w _
theorem Block.drew {w : World} {b : Nat} {t : TypeId} {xs : List Value} (h : Block w b t xs) : Block w.drew b t xs := h
theorem Block.row {w : World} {b : Nat} {t : TypeId} {xs ys : List Value} (h : Block w b t xs) (_hl : ys.length = xs.length) : Block (w.setRow b ys.toArray) b t ys := heap_setRow w b _ _ t h

theorem Touch.setRow {S : Nat → Prop} {a w : World} (h : Touch S a w) {g : Nat} (hp : S g ∨ a.heap.size ≤ g) (cs : Array Value) : Touch S a (w.setRow g cs) :=
  h.trans' (S' := fun k => k = g) ⟨rfl, rfl, rfl, by simp, fun k _ hk => setRow_other w g k _ hk⟩ (fun i e => by subst e; exact hp)

section
variable {P : Program}

theorem run_loadVar_cells (w : World) (g o : Nat) (ty : TypeId) (cs : List Value) (d : TypeDesc) (hc : ∀ j u, cs[j]? = some u → w.cell? ⟨g, o + j, none⟩ = some u)
    (hu : P.underlying ty = some d) (hd : (match d with | .struct _ | .array _ _ => true | _ => false) = true) (hi : (P.info? ty).map (·.size) = some cs.length) :
    (loadVar ty ⟨g, o, none⟩).run P w = .ok (.agg cs.toArray) w := by
  have hl : (loadCells ⟨g, o, none⟩ cs.length).run P w = .ok cs.toArray w :=
    run_loadCells_list (P := P) w ⟨g, o, none⟩ cs (fun j v hv => by
      have hadd : (⟨g, o, none⟩ : Addr).add j = ⟨g, o + j, none⟩ := by unfold Addr.add; split <;> simp_all
      rw [hadd]
      exact hc j v hv)
  cases hq : P.info? ty with
  | none => simp [hq] at hi
  | some i =>
    have hs : i.size = cs.length := by simpa [hq] using hi
    have hagg : (isAgg ty).run P w = .ok true w := by
      unfold isAgg
      rw [Sem.run_bind, run_underlying hu w]
      cases d <;> simp_all
    simp [loadVar, Sem.run_bind, hagg, sizeOf, typeInfo, hq, hs, hl]

theorem wp_load_cells {o : Oper} {a : Act} {w : World} {K : Act → World → Prop} {Q : Exit → Act → World → Prop} (ty : TypeId) (x : Operand) (ho : o.op = .load ty x)
    (g off : Nat) (hx : a.eval x = .pointer (some ⟨g, off, none⟩)) (cs : List Value) (d : TypeDesc) (hc : ∀ j u, cs[j]? = some u → w.cell? ⟨g, off + j, none⟩ = some u)
    (hu : P.underlying ty = some d) (hd : (match d with | .struct _ | .array _ _ => true | _ => false) = true) (hi : (P.info? ty).map (·.size) = some cs.length)
    (h : K (a.put o.dst (.agg cs.toArray)) w) : o.wp P a w K Q := by
  unfold Oper.wp execOp
  simp only [ho, hx, Instr.loadAt, Instr.sureAddr, Sem.run_bind, Sem.run_pure, Result.andThen_ok, run_loadVar_cells w g off ty cs d hc hu hd hi]
  exact h

/-- An array's element, by value. -/
theorem run_index_tab (t e : TypeId) (n : Nat) (cs : Array Value) (k : Nat) (u : Value) (h : P.underlying t = some (.array n e)) (hs : ∀ w, (sizeOf e).run P w = .ok 1 w) (ha : ∀ w, (isAgg e).run P w = .ok false w)
    (hk : k < n) (hu : cs[k]? = some u) (w : World) : (Instr.index t (.agg cs) (.int .i64 k)).run P w = .ok u w := by
  have h0 : (0 : Int) ≤ k ∧ (k : Int) < n := by omega
  have hc : k < cs.size := (Array.getElem?_eq_some_iff.1 hu).1
  have hu' : cs[k] = u := (Array.getElem?_eq_some_iff.1 hu).2
  simp [Instr.index, asIntOf, run_underlying h, hs, ha, h0, part, hu, go_sem]
  intro hle
  omega

/-- A whole array out of any cells. -/
theorem wpList_load_cells {ops : Array Oper} {rest : List Oper} {o : Oper} {a : Act} {w : World} {Q : Exit → Act → World → Prop} (hgd : o.guard = none) (ty : TypeId) (x : Operand) (ho : o.op = .load ty x)
    (g off : Nat) (hx : a.eval x = .pointer (some ⟨g, off, none⟩)) (cs : List Value) (d : TypeDesc) (hc : ∀ j u, cs[j]? = some u → w.cell? ⟨g, off + j, none⟩ = some u)
    (hu : P.underlying ty = some d) (hd : (match d with | .struct _ | .array _ _ => true | _ => false) = true) (hi : (P.info? ty).map (·.size) = some cs.length)
    (h : wpList P ops Q rest (a.put o.dst (.agg cs.toArray)) w) : wpList P ops Q (o :: rest) a w :=
  wpList_plain hgd fun _ hK => wp_load_cells ty x ho g off hx cs d hc hu hd hi (hK _ _ h)

theorem step_load_cells {ops : Array Oper} {o : Oper} {a : Act} {w : World} {K : Act → World → Prop} {Q : Exit → Act → World → Prop} {E : Prop} (hgd : o.guard = none) (ty : TypeId) (x : Operand) (ho : o.op = .load ty x)
    (g off : Nat) (hx : a.eval x = .pointer (some ⟨g, off, none⟩)) (cs : List Value) (d : TypeDesc) (hc : ∀ j u, cs[j]? = some u → w.cell? ⟨g, off + j, none⟩ = some u)
    (hu : P.underlying ty = some d) (hd : (match d with | .struct _ | .array _ _ => true | _ => false) = true) (hi : (P.info? ty).map (·.size) = some cs.length)
    (h : K (a.put o.dst (.agg cs.toArray)) w) : if Region.wanted o (yielded ops a.tmps) = true then Oper.wp P o a w K Q else E := by
  have hw : Region.wanted o (yielded ops a.tmps) = true := by simp [Region.wanted, hgd]
  rw [if_pos hw]
  exact wp_load_cells ty x ho g off hx cs d hc hu hd hi h

theorem Block.cells {w : World} {b : Nat} {t : TypeId} {xs : List Value} (h : Block w b t xs) : ∀ j u, xs[j]? = some u → w.cell? ⟨b, 0 + j, none⟩ = some u := fun j u hu => by
  rw [Nat.zero_add, h.cell j]; exact hu

end
end Go.Proofs.YtoaeffinjpkahaaDoor
