/- An argument opened: a slice of acts on a file. -/
import Derived.Test.YtmcakilpdecacaaBase
import Derived.Test.YtmcakilpdecacaaOpen
import Derived.Test.YtmcakilpdecacaaArr
import Derived.ProofKit
namespace Go.Proofs.Ytmcakilpdecacaa
open Go Go.RowKit Go.WideShapes Go.ChangeShapes Go.ChangeMaps
set_option maxRecDepth 100000

/-- An act on a file: its kind, a text, a place, a number. -/
structure SAct where
  what : Int
  text : ByteArray
  pos : Int
  n : Int

def InI (z : Int) : Prop := -9223372036854775808 ≤ z ∧ z ≤ 9223372036854775807
/-- What an act's numbers and its text may be. -/
def SAct.ok (x : SAct) : Prop := InI x.what ∧ x.text.size ≤ 9223372036854775807 ∧ InI x.pos ∧ InI x.n

/-- A slice of acts, to be read. -/
def SActs (w : World) (v : Value) (l : List SAct) : Prop :=
  ∃ a cap, v = .slice a l.length cap ∧ l.length ≤ cap ∧ cap ≤ maxLen ∧ (∀ x ∈ l, x.ok) ∧
    (l = [] ∨ ∃ g off, a = some ⟨g, off, none⟩ ∧ g < w.heap.size ∧ ∀ j t, l[j]? = some t →
      w.cell? ⟨g, off + j * 4, none⟩ = some (.int .i64 t.what) ∧ w.cell? ⟨g, off + j * 4 + 1, none⟩ = some (.string t.text) ∧ w.cell? ⟨g, off + j * 4 + 2, none⟩ = some (.int .i64 t.pos) ∧ w.cell? ⟨g, off + j * 4 + 3, none⟩ = some (.int .i64 t.n))

theorem Try.cellsSAct : Try.prog.cellsOf 55 = 4 := by kernel_rfl
theorem Try.cellsIS : Try.prog.cellsOf 3 = 1 := by kernel_rfl
theorem Try.cellsSS : Try.prog.cellsOf 9 = 1 := by kernel_rfl

theorem open_sacts {H : Type} {enc : TypeId × Value → H} {W : World} {r : Reach} {b0 : Nat} {v : Value} {d : DataW H} {p : List MemPlace} (hval : Value.okWide Try.prog W r b0 50 v)
    (h : DataW.Trod enc Try.prog W 0 (fun _ => true) true 50 v d p) : ∃ l : List SAct, SActs W v l := by
  obtain ⟨a, n, cap, rfl, hn, hcap, hel⟩ := open_slice_any Try.underlying50 Try.cellsSAct (by decide) hval h
  rcases hel with rfl | ⟨g, off, rfl, hg, hel⟩
  · exact ⟨[], a, cap, rfl, Nat.zero_le _, hcap, fun x hx => (by cases hx), .inl rfl⟩
  · have each : ∀ i, ∃ q : SAct, q.ok ∧
        (i < n → W.cell? ⟨g, off + i * 4, none⟩ = some (.int .i64 q.what) ∧ W.cell? ⟨g, off + i * 4 + 1, none⟩ = some (.string q.text) ∧ W.cell? ⟨g, off + i * 4 + 2, none⟩ = some (.int .i64 q.pos) ∧ W.cell? ⟨g, off + i * 4 + 3, none⟩ = some (.int .i64 q.n)) := by
      intro i
      by_cases hi : i < n
      · obtain ⟨cs, f, y, hl, hc, ht⟩ := hel i hi
        obtain ⟨xs, m, _, _, _, hxl, hf⟩ := DataW.trod_struct Try.underlying55 ht
        match cs, hl with
        | [c0, c1, c2, c3], _ =>
          have k0 := hc 0 (by decide)
          have k1 := hc 1 (by decide)
          have k2 := hc 2 (by decide)
          have k3 := hc 3 (by decide)
          match xs, hxl with
          | [x0, x1, x2, x3], _ =>
            have f0 : DataW.trod enc Try.prog W 0 (fun _ => true) true m 3 [c0] = some x0 := by simpa [Try.cellsIS] using hf 0 _ rfl
            have f1 : DataW.trod enc Try.prog W 0 (fun _ => true) true m 9 [c1] = some x1 := by simpa [Try.cellsSS] using hf 1 _ rfl
            have f2 : DataW.trod enc Try.prog W 0 (fun _ => true) true m 3 [c2] = some x2 := by simpa [Try.cellsIS] using hf 2 _ rfl
            have f3 : DataW.trod enc Try.prog W 0 (fun _ => true) true m 3 [c3] = some x3 := by simpa [Try.cellsIS] using hf 3 _ rfl
            obtain ⟨n0, e0, _, w0⟩ := DataW.trod_int Try.underlying3 f0
            obtain ⟨n1, e1, _, w1⟩ := DataW.trod_string Try.underlying9 f1
            obtain ⟨n2, e2, _, w2⟩ := DataW.trod_int Try.underlying3 f2
            obtain ⟨n3, e3, _, w3⟩ := DataW.trod_int Try.underlying3 f3
            injection e0 with e0 _; injection e1 with e1 _; injection e2 with e2 _; injection e3 with e3 _
            subst e0; subst e1; subst e2; subst e3
            exact ⟨⟨n0, n1, n2, n3⟩, ⟨wf_i64 w0, w1, wf_i64 w2, wf_i64 w3⟩, fun _ => ⟨k0, k1, k2, k3⟩⟩
      · exact ⟨⟨0, ⟨#[]⟩, 0, 0⟩, ⟨⟨by decide, by decide⟩, by decide, ⟨by decide, by decide⟩, ⟨by decide, by decide⟩⟩, fun h => absurd h hi⟩
    obtain ⟨f, hf⟩ := Classical.axiomOfChoice each
    refine ⟨(List.range n).map f, some ⟨g, off, none⟩, cap, by simp, by simpa using hn, hcap, fun x hx => ?_, .inr ⟨g, off, rfl, hg, fun j t ht => ?_⟩⟩
    · obtain ⟨i, _, rfl⟩ := List.mem_map.1 hx
      exact (hf i).1
    · rw [List.getElem?_map] at ht
      by_cases hj : j < n
      · rw [List.getElem?_range hj] at ht
        have := Option.some.inj ht
        subst this
        exact (hf j).2 hj
      · rw [List.getElem?_eq_none (by simp; omega)] at ht
        cases ht

theorem SActs.form {w : World} {v : Value} {l : List SAct} (h : SActs w v l) : ∃ a cap, v = .slice a l.length cap ∧ l.length ≤ cap ∧ cap ≤ maxLen := by
  obtain ⟨a, cap, rfl, h1, h2, _⟩ := h
  exact ⟨a, cap, rfl, h1, h2⟩
theorem SActs.still {w w' : World} {v : Value} {l : List SAct} (h : SActs w v l) (hT : Touch (fun _ => False) w w') : SActs w' v l := by
  obtain ⟨a, cap, rfl, h1, h2, h3, h4⟩ := h
  refine ⟨a, cap, rfl, h1, h2, h3, ?_⟩
  rcases h4 with h4 | ⟨g, off, rfl, hg, h5⟩
  · exact .inl h4
  · exact .inr ⟨g, off, rfl, Nat.lt_of_lt_of_le hg hT.size, fun j t ht => ⟨hT.cell (h5 j t ht).1 id, hT.cell (h5 j t ht).2.1 id, hT.cell (h5 j t ht).2.2.1 id, hT.cell (h5 j t ht).2.2.2 id⟩⟩
theorem SActs.at' {w : World} {v : Value} {l : List SAct} (h : SActs w v l) {k : Nat} (hk : k < l.length) : ∃ g off cap, v = .slice (some ⟨g, off, none⟩) l.length cap ∧ g < w.heap.size ∧ l[k].ok ∧
      w.cell? ⟨g, off + k * 4, none⟩ = some (.int .i64 l[k].what) ∧ w.cell? ⟨g, off + k * 4 + 1, none⟩ = some (.string l[k].text) ∧ w.cell? ⟨g, off + k * 4 + 2, none⟩ = some (.int .i64 l[k].pos) ∧ w.cell? ⟨g, off + k * 4 + 3, none⟩ = some (.int .i64 l[k].n) := by
  obtain ⟨a, cap, rfl, h1, h2, h3, h4⟩ := h
  rcases h4 with rfl | ⟨g, off, rfl, hg, h5⟩
  · exact absurd hk (Nat.not_lt_zero _)
  · exact ⟨g, off, cap, rfl, hg, h3 _ (List.getElem_mem hk), h5 k l[k] (List.getElem?_eq_getElem hk)⟩
end Go.Proofs.Ytmcakilpdecacaa
