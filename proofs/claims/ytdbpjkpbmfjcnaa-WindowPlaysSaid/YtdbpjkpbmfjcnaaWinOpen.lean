/- An argument that is a slice of acts on a window, opened to its acts. -/
import Derived.Test.YtdbpjkpbmfjcnaaRows
import Derived.Test.YtdbpjkpbmfjcnaaBase
import Derived.Test.YtdbpjkpbmfjcnaaOpen
import Derived.Test.YtdbpjkpbmfjcnaaWinR
namespace Go.Proofs.Ytdbpjkpbmfjcnaa
open Go Go.ChangeShapes Go.WideShapes Go.ChangeAt Go.RowKit
set_option maxRecDepth 100000

/-- An act on a window: its kind, a text, how many bytes, how far back. -/
structure PAct where
  what : Int
  text : ByteArray
  n : Int
  d : Int

/-- A slice of acts, to be read. -/
def PActs (w : World) (v : Value) (l : List PAct) : Prop :=
  ∃ a cap, v = .slice a l.length cap ∧ l.length ≤ cap ∧ cap ≤ maxLen ∧ (∀ x ∈ l, (-9223372036854775808 ≤ x.what ∧ x.what ≤ 9223372036854775807) ∧ x.text.size ≤ 9223372036854775807) ∧ (l = [] ∨ ∃ g off, a = some ⟨g, off, none⟩ ∧ ∀ j t, l[j]? = some t →
    w.cell? ⟨g, off + j * 4, none⟩ = some (.int .i64 t.what) ∧ w.cell? ⟨g, off + j * 4 + 1, none⟩ = some (.string t.text) ∧ w.cell? ⟨g, off + j * 4 + 2, none⟩ = some (.int .i64 t.n) ∧ w.cell? ⟨g, off + j * 4 + 3, none⟩ = some (.int .i64 t.d))

theorem Try.cellsPAct : Try.prog.cellsOf 70 = 4 := by kernel_rfl
theorem Try.cellsI : Try.prog.cellsOf 3 = 1 := by kernel_rfl
theorem Try.cellsS : Try.prog.cellsOf 9 = 1 := by kernel_rfl

theorem open_pacts {H : Type} {enc : TypeId × Value → H} {W : World} {r : Reach} {b0 : Nat} {v : Value} {d : DataW H} {p : List MemPlace} (hval : Value.okWide Try.prog W r b0 63 v)
    (h : DataW.Trod enc Try.prog W 0 (fun _ => true) true 63 v d p) : ∃ l : List PAct, PActs W v l := by
  obtain ⟨a, n, cap, rfl, hn, hcap, hel⟩ := open_slice_any Try.underlying63 Try.cellsPAct (by decide) hval h
  rcases hel with rfl | ⟨g, off, rfl, hg, hel⟩
  · exact ⟨[], a, cap, rfl, Nat.zero_le _, hcap, fun x hx => (by cases hx), .inl rfl⟩
  · have each : ∀ i, ∃ q : PAct, ((-9223372036854775808 ≤ q.what ∧ q.what ≤ 9223372036854775807) ∧ q.text.size ≤ 9223372036854775807) ∧ (i < n → W.cell? ⟨g, off + i * 4, none⟩ = some (.int .i64 q.what) ∧ W.cell? ⟨g, off + i * 4 + 1, none⟩ = some (.string q.text) ∧ W.cell? ⟨g, off + i * 4 + 2, none⟩ = some (.int .i64 q.n) ∧ W.cell? ⟨g, off + i * 4 + 3, none⟩ = some (.int .i64 q.d)) := by
      intro i
      by_cases hi : i < n
      · obtain ⟨cs, f, y, hl, hc, ht⟩ := hel i hi
        obtain ⟨xs, m, _, _, _, hxl, hf⟩ := DataW.trod_struct Try.underlying70 ht
        match cs, hl with
        | [c0, c1, c2, c3], _ =>
          have k0 := hc 0 (by decide)
          have k1 := hc 1 (by decide)
          have k2 := hc 2 (by decide)
          have k3 := hc 3 (by decide)
          match xs, hxl with
          | [x0, x1, x2, x3], _ =>
            have f0 : DataW.trod enc Try.prog W 0 (fun _ => true) true m 3 [c0] = some x0 := by simpa [Try.cellsI] using hf 0 _ rfl
            have f1 : DataW.trod enc Try.prog W 0 (fun _ => true) true m 9 [c1] = some x1 := by simpa [Try.cellsS] using hf 1 _ rfl
            have f2 : DataW.trod enc Try.prog W 0 (fun _ => true) true m 3 [c2] = some x2 := by simpa [Try.cellsI] using hf 2 _ rfl
            have f3 : DataW.trod enc Try.prog W 0 (fun _ => true) true m 3 [c3] = some x3 := by simpa [Try.cellsI] using hf 3 _ rfl
            obtain ⟨n0, e0, _, w0⟩ := DataW.trod_int Try.underlying3 f0
            obtain ⟨s1, e1, _, w1⟩ := DataW.trod_string Try.underlying9 f1
            obtain ⟨n2, e2, _, _⟩ := DataW.trod_int Try.underlying3 f2
            obtain ⟨n3, e3, _, _⟩ := DataW.trod_int Try.underlying3 f3
            injection e0 with e0 _; injection e1 with e1 _; injection e2 with e2 _; injection e3 with e3 _
            subst e0; subst e1; subst e2; subst e3
            unfold maxLen at w1
            exact ⟨⟨n0, s1, n2, n3⟩, ⟨wf_i64 w0, by show s1.size ≤ _; omega⟩, fun _ => ⟨k0, k1, k2, k3⟩⟩
      · exact ⟨⟨0, ⟨#[]⟩, 0, 0⟩, ⟨⟨by decide, by decide⟩, by decide⟩, fun h => absurd h hi⟩
    obtain ⟨f, hf⟩ := Classical.axiomOfChoice each
    refine ⟨(List.range n).map f, some ⟨g, off, none⟩, cap, by simp, by simpa using hn, hcap, fun x hx => ?_, .inr ⟨g, off, rfl, fun j t ht => ?_⟩⟩
    · obtain ⟨i, _, rfl⟩ := List.mem_map.1 hx
      exact (hf i).1
    · rw [List.getElem?_map] at ht
      by_cases hj : j < n
      · rw [List.getElem?_range hj] at ht
        have := Option.some.inj ht
        subst this
        exact (hf j).2 hj
      · rw [List.getElem?_eq_none (by simp; omega)] at ht
        cases ht
end Go.Proofs.Ytdbpjkpbmfjcnaa
