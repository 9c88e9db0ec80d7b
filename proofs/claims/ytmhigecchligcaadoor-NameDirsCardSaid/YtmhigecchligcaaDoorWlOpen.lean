
/- An argument opened: a slice of texts. No program is named here. -/
import Derived.Test.YtmhigecchligcaaDoorOpen
import Derived.Test.YtmhigecchligcaaDoorArr
import Derived.ProofKit
namespace Go.Proofs.YtmhigecchligcaaDoor
open Go Go.RowKit Go.WideShapes Go.ChangeShapes Go.ChangeMaps

theorem open_texts {H : Type} {enc : TypeId × Value → H} {P : Program} {w : World} {r : Reach} {b0 : Nat} {t e : TypeId} {v : Value} {d : DataW H} {p : List MemPlace}
    (ht : P.underlying t = some (.slice e)) (he : P.underlying e = some .string) (hC : P.cellsOf e = 1) (hval : Value.okWide P w r b0 t v) (h : DataW.Trod enc P w 0 (fun _ => true) true t v d p) :
    ∃ l : List ByteArray, Reads w v (l.map Value.string) ∧ ∀ s ∈ l, s.size ≤ 9223372036854775807 := by
  obtain ⟨a, n, cap, rfl, h1, h2, h3⟩ := open_slice_any ht hC (by omega) hval h
  rcases h3 with rfl | ⟨g, off, rfl, _, h3⟩
  · exact ⟨[], ⟨a, cap, rfl, h1, h2, .inl rfl⟩, fun s hs => by cases hs⟩
  · have h4 : ∀ i, i < n → ∃ s : ByteArray, w.cell? ⟨g, off + i, none⟩ = some (.string s) ∧ s.size ≤ 9223372036854775807 := fun i hi => by
      obtain ⟨cs, f, y, c1, c2, c3⟩ := h3 i hi
      match cs, c1 with
      | [c0], _ =>
        obtain ⟨s, e0, _, w0⟩ := DataW.trod_string he c3
        injection e0 with e0 _
        subst e0
        have := c2 0 (by omega)
        rw [Nat.mul_one, Nat.add_zero] at this
        exact ⟨s, this, w0⟩
    have hF : ∃ F : Nat → ByteArray, ∀ i, i < n → w.cell? ⟨g, off + i, none⟩ = some (.string (F i)) ∧ (F i).size ≤ 9223372036854775807 :=
      ⟨fun i => if h : i < n then (h4 i h).choose else ⟨#[]⟩, fun i hi => by simp only [dif_pos hi]; exact (h4 i hi).choose_spec⟩
    obtain ⟨F, hF⟩ := hF
    have hlen : (((List.range n).map F).map Value.string).length = n := by simp
    refine ⟨(List.range n).map F, ⟨some ⟨g, off, none⟩, cap, by rw [hlen], by omega, h2, .inr ⟨g, off, rfl, fun j u hu => ?_⟩⟩, fun s hs => ?_⟩
    · have hj : j < n := by
        have := (List.getElem?_eq_some_iff.1 hu).1
        omega
      simp [hj] at hu
      rw [← hu]
      exact (hF j hj).1
    · obtain ⟨i, hi, rfl⟩ := List.mem_map.1 hs
      exact (hF i (by simpa using hi)).2
end Go.Proofs.YtmhigecchligcaaDoor
