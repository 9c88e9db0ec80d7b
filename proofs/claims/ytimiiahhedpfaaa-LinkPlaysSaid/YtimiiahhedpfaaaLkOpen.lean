/- An argument opened: a slice of acts on a link. -/
import Derived.Test.YtimiiahhedpfaaaBase
import Derived.Test.YtimiiahhedpfaaaOpen
import Derived.Test.YtimiiahhedpfaaaArr
import Derived.ProofKit
namespace Go.Proofs.Ytimiiahhedpfaaa
open Go Go.RowKit Go.WideShapes Go.ChangeShapes Go.ChangeMaps
set_option maxRecDepth 100000

/-- An act on a link: its kind, a way, a text, a place, bits. -/
structure LAct where
  what : Int
  way : Int
  text : ByteArray
  pos : Int
  v : Nat

def InL (z : Int) : Prop := -9223372036854775808 ≤ z ∧ z ≤ 9223372036854775807
/-- What an act's numbers and its text may be. -/
def LAct.ok (x : LAct) : Prop := InL x.what ∧ InL x.way ∧ x.text.size ≤ 9223372036854775807 ∧ InL x.pos ∧ x.v < 4294967296
/-- The cells of an act. -/
def LAct.at (w : World) (g o : Nat) (t : LAct) : Prop :=
  w.cell? ⟨g, o, none⟩ = some (.int .i64 t.what) ∧ w.cell? ⟨g, o + 1, none⟩ = some (.int .i64 t.way) ∧ w.cell? ⟨g, o + 2, none⟩ = some (.string t.text) ∧ w.cell? ⟨g, o + 3, none⟩ = some (.int .i64 t.pos) ∧ w.cell? ⟨g, o + 4, none⟩ = some (.int .u32 (t.v : Nat))

/-- A slice of acts, to be read. -/
def LActs (w : World) (v : Value) (l : List LAct) : Prop :=
  ∃ a cap, v = .slice a l.length cap ∧ l.length ≤ cap ∧ cap ≤ maxLen ∧ (∀ x ∈ l, x.ok) ∧
    (l = [] ∨ ∃ g off, a = some ⟨g, off, none⟩ ∧ g < w.heap.size ∧ ∀ j (t : LAct), l[j]? = some t → t.at w g (off + j * 5))

theorem Try.cellsLAct : Try.prog.cellsOf 68 = 5 := by kernel_rfl
theorem Try.cellsIL : Try.prog.cellsOf 3 = 1 := by kernel_rfl
theorem Try.cellsSL : Try.prog.cellsOf 9 = 1 := by kernel_rfl
theorem Try.cellsUL : Try.prog.cellsOf 22 = 1 := by kernel_rfl

theorem open_lacts {H : Type} {enc : TypeId × Value → H} {W : World} {r : Reach} {b0 : Nat} {v : Value} {d : DataW H} {p : List MemPlace} (hval : Value.okWide Try.prog W r b0 62 v)
    (h : DataW.Trod enc Try.prog W 0 (fun _ => true) true 62 v d p) : ∃ l : List LAct, LActs W v l := by
  obtain ⟨a, n, cap, rfl, hn, hcap, hel⟩ := open_slice_any Try.underlying62 Try.cellsLAct (by decide) hval h
  rcases hel with rfl | ⟨g, off, rfl, hg, hel⟩
  · exact ⟨[], a, cap, rfl, Nat.zero_le _, hcap, fun x hx => (by cases hx), .inl rfl⟩
  · have each : ∀ i, ∃ q : LAct, q.ok ∧ (i < n → q.at W g (off + i * 5)) := by
      intro i
      by_cases hi : i < n
      · obtain ⟨cs, f, y, hl, hc, ht⟩ := hel i hi
        obtain ⟨xs, m, _, _, _, hxl, hf⟩ := DataW.trod_struct Try.underlying68 ht
        match cs, hl with
        | [c0, c1, c2, c3, c4], _ =>
          have k0 := hc 0 (by decide)
          have k1 := hc 1 (by decide)
          have k2 := hc 2 (by decide)
          have k3 := hc 3 (by decide)
          have k4 := hc 4 (by decide)
          match xs, hxl with
          | [x0, x1, x2, x3, x4], _ =>
            have f0 : DataW.trod enc Try.prog W 0 (fun _ => true) true m 3 [c0] = some x0 := by simpa [Try.cellsIL] using hf 0 _ rfl
            have f1 : DataW.trod enc Try.prog W 0 (fun _ => true) true m 3 [c1] = some x1 := by simpa [Try.cellsIL] using hf 1 _ rfl
            have f2 : DataW.trod enc Try.prog W 0 (fun _ => true) true m 9 [c2] = some x2 := by simpa [Try.cellsSL, Try.cellsIL] using hf 2 _ rfl
            have f3 : DataW.trod enc Try.prog W 0 (fun _ => true) true m 3 [c3] = some x3 := by simpa [Try.cellsIL, Try.cellsSL] using hf 3 _ rfl
            have f4 : DataW.trod enc Try.prog W 0 (fun _ => true) true m 22 [c4] = some x4 := by simpa [Try.cellsUL, Try.cellsIL, Try.cellsSL] using hf 4 _ rfl
            obtain ⟨n0, e0, _, w0⟩ := DataW.trod_int Try.underlying3 f0
            obtain ⟨n1, e1, _, w1⟩ := DataW.trod_int Try.underlying3 f1
            obtain ⟨n2, e2, _, w2⟩ := DataW.trod_string Try.underlying9 f2
            obtain ⟨n3, e3, _, w3⟩ := DataW.trod_int Try.underlying3 f3
            obtain ⟨n4, e4, _, w4⟩ := DataW.trod_int Try.underlying22 f4
            injection e0 with e0 _; injection e1 with e1 _; injection e2 with e2 _; injection e3 with e3 _; injection e4 with e4 _
            subst e0; subst e1; subst e2; subst e3; subst e4
            obtain ⟨m4, rfl, hm4⟩ := wf_u32 w4
            exact ⟨⟨n0, n1, n2, n3, m4⟩, ⟨wf_i64 w0, wf_i64 w1, w2, wf_i64 w3, hm4⟩, fun _ => ⟨k0, k1, k2, k3, k4⟩⟩
      · exact ⟨⟨0, 0, ⟨#[]⟩, 0, 0⟩, ⟨⟨by decide, by decide⟩, ⟨by decide, by decide⟩, by decide, ⟨by decide, by decide⟩, by decide⟩, fun h => absurd h hi⟩
    obtain ⟨f, hf⟩ := Classical.axiomOfChoice each
    refine ⟨(List.range n).map f, some ⟨g, off, none⟩, cap, by simp, by simpa using hn, hcap, fun x hx => ?_, .inr ⟨g, off, rfl, hg, fun j t ht => ?_⟩⟩
    · obtain ⟨i, _, rfl⟩ := List.mem_map.1 hx
      exact (hf i).1
    · rw [List.getElem?_map] at ht
      by_cases hj : j < n
      · rw [List.getElem?_range hj] at ht
        have := Option.some.inj ht
        subst this
        exact (hf j).2 hj
      · rw [List.getElem?_eq_none (by simp; omega)] at ht
        cases ht

theorem LActs.form {w : World} {v : Value} {l : List LAct} (h : LActs w v l) : ∃ a cap, v = .slice a l.length cap ∧ l.length ≤ cap ∧ cap ≤ maxLen := by
  obtain ⟨a, cap, rfl, h1, h2, _⟩ := h
  exact ⟨a, cap, rfl, h1, h2⟩
theorem LActs.still {w w' : World} {v : Value} {l : List LAct} (h : LActs w v l) (hT : Touch (fun _ => False) w w') : LActs w' v l := by
  obtain ⟨a, cap, rfl, h1, h2, h3, h4⟩ := h
  refine ⟨a, cap, rfl, h1, h2, h3, ?_⟩
  rcases h4 with h4 | ⟨g, off, rfl, hg, h5⟩
  · exact .inl h4
  · exact .inr ⟨g, off, rfl, Nat.lt_of_lt_of_le hg hT.size, fun j t ht => ⟨hT.cell (h5 j t ht).1 id, hT.cell (h5 j t ht).2.1 id, hT.cell (h5 j t ht).2.2.1 id, hT.cell (h5 j t ht).2.2.2.1 id, hT.cell (h5 j t ht).2.2.2.2 id⟩⟩
theorem LActs.at' {w : World} {v : Value} {l : List LAct} (h : LActs w v l) {k : Nat} (hk : k < l.length) : ∃ g off cap, v = .slice (some ⟨g, off, none⟩) l.length cap ∧ g < w.heap.size ∧ l[k].ok ∧ l[k].at w g (off + k * 5) := by
  obtain ⟨a, cap, rfl, h1, h2, h3, h4⟩ := h
  rcases h4 with rfl | ⟨g, off, rfl, hg, h5⟩
  · exact absurd hk (Nat.not_lt_zero _)
  · exact ⟨g, off, cap, rfl, hg, h3 _ (List.getElem_mem hk), h5 k l[k] (List.getElem?_eq_getElem hk)⟩
end Go.Proofs.Ytimiiahhedpfaaa
