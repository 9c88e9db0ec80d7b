/- An argument that is a slice, opened to its elements' cells, whatever they are. No program is named here. -/
import Derived.ProofKit
import Derived.Deep.Slices
namespace Go.Proofs.YtoaeffinjpkahaaDoor
set_option linter.unusedSimpArgs false
set_option linter.unusedVariables false
open Go Go.RowKit Go.WideShapes Go.ChangeShapes

theorem add_plain (g off k : Nat) : (⟨g, off, none⟩ : Addr).add k = ⟨g, off + k, none⟩ := by
  by_cases h : k = 0
  · subst h; simp [Addr.add]
  · simp [Addr.add, h]

theorem plain_of_cell {w : World} {a : Addr} {v : Value} (h : w.cell? a = some v) : a = ⟨a.block, a.off, none⟩ := by
  obtain ⟨b, o, s⟩ := a
  cases s with
  | none => rfl
  | some x =>
    unfold World.cell? at h
    split at h <;> simp at h

section
variable {H : Type} {enc : TypeId × Value → H} {P : Program} {w : World}

/-- Each element's cells, and that they read as the element's type. -/
theorem open_slice_any {r : Reach} {b0 : Nat} {t e : TypeId} {C : Nat} {v : Value} {d : DataW H} {p : List MemPlace} (ht : P.underlying t = some (.slice e)) (hC : P.cellsOf e = C) (h0 : 0 < C)
    (hval : Value.okWide P w r b0 t v) (h : DataW.Trod enc P w 0 (fun _ => true) true t v d p) :
    ∃ a n cap, v = .slice a n cap ∧ n ≤ cap ∧ cap ≤ maxLen ∧ (n = 0 ∨ ∃ g off, a = some ⟨g, off, none⟩ ∧ g < w.heap.size ∧
      ∀ i, i < n → ∃ (cs : List Value) (f : Nat) (y : DataW H × List MemPlace), cs.length = C ∧ (∀ j, j < C → w.cell? ⟨g, off + (i * C + j), none⟩ = cs[j]?) ∧ DataW.trod enc P w 0 (fun _ => true) true f e cs = some y) := by
  obtain ⟨a, n, cap, rfl⟩ := okWide_slice ht hval
  obtain ⟨fuel, hf⟩ := h
  rcases Go.Deep.open_slice ht hf with ⟨hc, _⟩ | ⟨a', n', cap', m, nf, D, Pl, hc, _, hl, hm, hmm, _, hi⟩
  · simp [Value.cells] at hc
    obtain ⟨rfl, rfl, rfl⟩ := hc
    exact ⟨none, 0, 0, rfl, Nat.le_refl _, Nat.zero_le _, .inl rfl⟩
  · simp [Value.cells] at hc
    obtain ⟨rfl, rfl, rfl⟩ := hc
    refine ⟨some a', n, cap, rfl, hl, hm, ?_⟩
    rcases Nat.eq_zero_or_pos n with hn | hn
    · exact .inl hn
    · right
      simp only [if_true] at hmm
      have hfirst : ∃ u, w.cell? a' = some u := by
        obtain ⟨cs, h1, _⟩ := hi 0 (by omega)
        obtain ⟨_, h3, h4⟩ := World.cells?_some h1
        have h5 := h4 0 (by omega)
        rw [Nat.zero_mul] at h5
        have h6 : (a'.add 0).add 0 = a' := rfl
        rw [h6] at h5
        exact ⟨_, h5.trans (List.getElem?_eq_getElem (by omega))⟩
      obtain ⟨u, hu⟩ := hfirst
      have ha := plain_of_cell hu
      refine ⟨a'.block, a'.off, by rw [← ha], World.block_lt_of_cell? w _ hu, fun i hin => ?_⟩
      obtain ⟨cs, h1, h2⟩ := hi i (by omega)
      obtain ⟨_, h3, h4⟩ := World.cells?_some h1
      refine ⟨cs, nf, _, by omega, fun j hj => ?_, h2⟩
      have h5 := h4 j (by omega)
      rw [hC, Go.Deep.add_add, ha, add_plain] at h5
      exact h5

end
end Go.Proofs.YtoaeffinjpkahaaDoor
