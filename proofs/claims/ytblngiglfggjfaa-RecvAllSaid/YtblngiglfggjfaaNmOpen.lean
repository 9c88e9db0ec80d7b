/- An argument opened: a slice of numbers. -/
import Derived.Test.YtblngiglfggjfaaBase
import Derived.Test.YtblngiglfggjfaaOpen
import Derived.Test.YtblngiglfggjfaaArr
import Derived.ProofKit
namespace Go.Proofs.Ytblngiglfggjfaa
open Go Go.RowKit Go.WideShapes Go.ChangeShapes Go.ChangeMaps
set_option maxRecDepth 100000

section
variable {H : Type} {enc : TypeId × Value → H} {P : Program} {w : World}

theorem open_cell_ints {fuel : Nat} {t e : TypeId} {c : Value} {x : DataW H × List MemPlace} (ht : P.underlying t = some (.slice e)) (he : P.underlying e = some (.int .i64)) (hC : P.cellsOf e = 1) (hf : DataW.trod enc P w 0 (fun _ => true) true fuel t [c] = some x) :
    ∃ xs : List Int, Reads w c (xs.map (Value.int .i64)) ∧ (∀ x ∈ xs, -9223372036854775808 ≤ x ∧ x ≤ 9223372036854775807) ∧ (0 < xs.length → ∀ g, c.ownBlock = some g → g < w.heap.size) := by
  rcases open_ints ht he hC hf with ⟨hcs, hx⟩ | ⟨a, len', cap', zs, hcs, _, hl, hm, hz, hx, hcell, hwz⟩
  · simp at hcs
    subst hcs
    exact ⟨[], ⟨none, 0, rfl, Nat.le_refl _, Nat.zero_le _, .inl rfl⟩, fun x hx => (by cases hx), fun _ g hg => (by cases hg)⟩
  · simp at hcs
    subst hcs
    simp only [if_true] at hz
    have hlen : ((zs.take len').map (Value.int .i64)).length = len' := by rw [List.length_map, List.length_take]; omega
    have hpl : 0 < len' → a = ⟨a.block, a.off, none⟩ := fun h0 => plain_of_cell (hcell 0 (by omega) : w.cell? (a.add 0) = _)
    refine ⟨zs.take len', ⟨some a, cap', by rw [hlen], by omega, hm, ?_⟩, fun x hx => wf_i64 (hwz x (List.mem_of_mem_take hx)), fun h0 g hg => ?_⟩
    · rcases Nat.eq_zero_or_pos len' with h0 | h0
      · left
        subst h0
        simp
      · right
        have ha := hpl h0
        refine ⟨a.block, a.off, by rw [← ha], fun j u hu => ?_⟩
        have hj : j < len' := by
          have := (List.getElem?_eq_some_iff.1 hu).1
          omega
        have h3 := hcell j (by omega)
        rw [ha, add_plain] at h3
        rw [h3]
        simp only [List.getElem?_map, List.getElem?_take, if_pos hj] at hu
        rw [List.getElem?_eq_getElem (by omega)] at hu
        simp at hu
        rw [← hu]
        simp [List.getD, List.getElem?_eq_getElem (show j < zs.length by omega)]
    · have h1 : 0 < len' := by rw [List.length_take] at h0; omega
      have h2 := World.block_lt_of_cell? w _ (hcell 0 (by omega))
      injection hg with hg
      subst hg
      exact h2
theorem open_nums {r : Reach} {b0 : Nat} {t e : TypeId} {v : Value} {d : DataW H} {p : List MemPlace} (ht : P.underlying t = some (.slice e)) (he : P.underlying e = some (.int .i64)) (hC : P.cellsOf e = 1)
    (hval : Value.okWide P w r b0 t v) (h : DataW.Trod enc P w 0 (fun _ => true) true t v d p) :
    ∃ xs : List Int, Reads w v (xs.map (Value.int .i64)) ∧ (∀ x ∈ xs, -9223372036854775808 ≤ x ∧ x ≤ 9223372036854775807) ∧ (0 < xs.length → ∀ g, v.ownBlock = some g → g < w.heap.size) := by
  obtain ⟨a0, len, cap, rfl⟩ := okWide_slice ht hval
  obtain ⟨fuel, hf⟩ := h
  have hc : (Value.slice a0 len cap).cells.toList = [Value.slice a0 len cap] := rfl
  rw [hc] at hf
  exact open_cell_ints ht he hC hf
end

theorem Try.cellsI : Try.prog.cellsOf 3 = 1 := by kernel_rfl
end Go.Proofs.Ytblngiglfggjfaa
