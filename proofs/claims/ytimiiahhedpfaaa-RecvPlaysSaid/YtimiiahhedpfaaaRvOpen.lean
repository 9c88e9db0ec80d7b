/- An argument opened: a slice of acts on a window that takes. -/
import Derived.Test.YtimiiahhedpfaaaBase
import Derived.Test.YtimiiahhedpfaaaOpen
import Derived.Test.YtimiiahhedpfaaaArr
import Derived.ProofKit
import Derived.ChangeArms
namespace Go.Proofs.Ytimiiahhedpfaaa
open Go Go.RowKit Go.WideShapes Go.ChangeShapes Go.ChangeMaps
set_option maxRecDepth 100000

/-- An act: its kind, how near the next number, or a number, a text. -/
structure RAct where
  what : Int
  near : Int
  raw : Bool
  num : Nat
  text : ByteArray

def InR (z : Int) : Prop := -9223372036854775808 ≤ z ∧ z ≤ 9223372036854775807
/-- What an act's numbers and its text may be. -/
def RAct.ok (x : RAct) : Prop := InR x.what ∧ InR x.near ∧ x.num < 4294967296 ∧ x.text.size ≤ 9223372036854775807
/-- The cells of an act. -/
def RAct.at (w : World) (g o : Nat) (t : RAct) : Prop :=
  w.cell? ⟨g, o, none⟩ = some (.int .i64 t.what) ∧ w.cell? ⟨g, o + 1, none⟩ = some (.int .i64 t.near) ∧ w.cell? ⟨g, o + 2, none⟩ = some (.bool t.raw) ∧ w.cell? ⟨g, o + 3, none⟩ = some (.int .u32 (t.num : Nat)) ∧ w.cell? ⟨g, o + 4, none⟩ = some (.string t.text)

/-- A slice of acts, to be read. -/
def RActs (w : World) (v : Value) (l : List RAct) : Prop :=
  ∃ a cap, v = .slice a l.length cap ∧ l.length ≤ cap ∧ cap ≤ maxLen ∧ (∀ x ∈ l, x.ok) ∧
    (l = [] ∨ ∃ g off, a = some ⟨g, off, none⟩ ∧ g < w.heap.size ∧ ∀ j (t : RAct), l[j]? = some t → t.at w g (off + j * 5))

theorem Try.cellsRAct : Try.prog.cellsOf 35 = 5 := by kernel_rfl
theorem Try.cellsIR : Try.prog.cellsOf 3 = 1 := by kernel_rfl
theorem Try.cellsSR : Try.prog.cellsOf 9 = 1 := by kernel_rfl
theorem Try.cellsBR : Try.prog.cellsOf 4 = 1 := by kernel_rfl
theorem Try.cellsUR : Try.prog.cellsOf 22 = 1 := by kernel_rfl

theorem open_racts {H : Type} {enc : TypeId × Value → H} {W : World} {r : Reach} {b0 : Nat} {v : Value} {d : DataW H} {p : List MemPlace} (hval : Value.okWide Try.prog W r b0 23 v)
    (h : DataW.Trod enc Try.prog W 0 (fun _ => true) true 23 v d p) : ∃ l : List RAct, RActs W v l := by
  obtain ⟨a, n, cap, rfl, hn, hcap, hel⟩ := open_slice_any Try.underlying23 Try.cellsRAct (by decide) hval h
  rcases hel with rfl | ⟨g, off, rfl, hg, hel⟩
  · exact ⟨[], a, cap, rfl, Nat.zero_le _, hcap, fun x hx => (by cases hx), .inl rfl⟩
  · have each : ∀ i, ∃ q : RAct, q.ok ∧ (i < n → q.at W g (off + i * 5)) := by
      intro i
      by_cases hi : i < n
      · obtain ⟨cs, f, y, hl, hc, ht⟩ := hel i hi
        obtain ⟨xs, m, _, _, _, hxl, hf⟩ := DataW.trod_struct Try.underlying35 ht
        match cs, hl with
        | [c0, c1, c2, c3, c4], _ =>
          have k0 := hc 0 (by decide)
          have k1 := hc 1 (by decide)
          have k2 := hc 2 (by decide)
          have k3 := hc 3 (by decide)
          have k4 := hc 4 (by decide)
          match xs, hxl with
          | [x0, x1, x2, x3, x4], _ =>
            have f0 : DataW.trod enc Try.prog W 0 (fun _ => true) true m 3 [c0] = some x0 := by simpa [Try.cellsIR] using hf 0 _ rfl
            have f1 : DataW.trod enc Try.prog W 0 (fun _ => true) true m 3 [c1] = some x1 := by simpa [Try.cellsIR] using hf 1 _ rfl
            have f2 : DataW.trod enc Try.prog W 0 (fun _ => true) true m 4 [c2] = some x2 := by simpa [Try.cellsIR, Try.cellsBR] using hf 2 _ rfl
            have f3 : DataW.trod enc Try.prog W 0 (fun _ => true) true m 22 [c3] = some x3 := by simpa [Try.cellsIR, Try.cellsBR, Try.cellsUR] using hf 3 _ rfl
            have f4 : DataW.trod enc Try.prog W 0 (fun _ => true) true m 9 [c4] = some x4 := by simpa [Try.cellsIR, Try.cellsBR, Try.cellsUR, Try.cellsSR] using hf 4 _ rfl
            obtain ⟨n0, e0, _, w0⟩ := DataW.trod_int Try.underlying3 f0
            obtain ⟨n1, e1, _, w1⟩ := DataW.trod_int Try.underlying3 f1
            obtain ⟨n2, e2, _⟩ := DataW.trod_bool Try.underlying4 f2
            obtain ⟨n3, e3, _, w3⟩ := DataW.trod_int Try.underlying22 f3
            obtain ⟨n4, e4, _, w4⟩ := DataW.trod_string Try.underlying9 f4
            injection e0 with e0 _; injection e1 with e1 _; injection e2 with e2 _; injection e3 with e3 _; injection e4 with e4 _
            subst e0; subst e1; subst e2; subst e3; subst e4
            obtain ⟨m3, rfl, hm3⟩ := wf_u32 w3
            exact ⟨⟨n0, n1, n2, m3, n4⟩, ⟨wf_i64 w0, wf_i64 w1, hm3, w4⟩, fun _ => ⟨k0, k1, k2, k3, k4⟩⟩
      · exact ⟨⟨0, 0, false, 0, ⟨#[]⟩⟩, ⟨⟨by decide, by decide⟩, ⟨by decide, by decide⟩, by decide, by decide⟩, fun h => absurd h hi⟩
    obtain ⟨f, hf⟩ := Classical.axiomOfChoice each
    refine ⟨(List.range n).map f, some ⟨g, off, none⟩, cap, by simp, by simpa using hn, hcap, fun x hx => ?_, .inr ⟨g, off, rfl, hg, fun j t ht => ?_⟩⟩
    · obtain ⟨i, _, rfl⟩ := List.mem_map.1 hx
      exact (hf i).1
    · rw [List.getElem?_map] at ht
      by_cases hj : j < n
      · rw [List.getElem?_range hj] at ht
        have := Option.some.inj ht
        subst this
        exact (hf j).2 hj
      · rw [List.getElem?_eq_none (by simp; omega)] at ht
        cases ht

theorem RActs.form {w : World} {v : Value} {l : List RAct} (h : RActs w v l) : ∃ a cap, v = .slice a l.length cap ∧ l.length ≤ cap ∧ cap ≤ maxLen := by
  obtain ⟨a, cap, rfl, h1, h2, _⟩ := h
  exact ⟨a, cap, rfl, h1, h2⟩
theorem RActs.still {w w' : World} {v : Value} {l : List RAct} (h : RActs w v l) (hT : Touch (fun _ => False) w w') : RActs w' v l := by
  obtain ⟨a, cap, rfl, h1, h2, h3, h4⟩ := h
  refine ⟨a, cap, rfl, h1, h2, h3, ?_⟩
  rcases h4 with h4 | ⟨g, off, rfl, hg, h5⟩
  · exact .inl h4
  · exact .inr ⟨g, off, rfl, Nat.lt_of_lt_of_le hg hT.size, fun j t ht => ⟨hT.cell (h5 j t ht).1 id, hT.cell (h5 j t ht).2.1 id, hT.cell (h5 j t ht).2.2.1 id, hT.cell (h5 j t ht).2.2.2.1 id, hT.cell (h5 j t ht).2.2.2.2 id⟩⟩
theorem RActs.at' {w : World} {v : Value} {l : List RAct} (h : RActs w v l) {k : Nat} (hk : k < l.length) : ∃ g off cap, v = .slice (some ⟨g, off, none⟩) l.length cap ∧ g < w.heap.size ∧ l[k].ok ∧ l[k].at w g (off + k * 5) := by
  obtain ⟨a, cap, rfl, h1, h2, h3, h4⟩ := h
  rcases h4 with rfl | ⟨g, off, rfl, hg, h5⟩
  · exact absurd hk (Nat.not_lt_zero _)
  · exact ⟨g, off, cap, rfl, hg, h3 _ (List.getElem_mem hk), h5 k l[k] (List.getElem?_eq_getElem hk)⟩
end Go.Proofs.Ytimiiahhedpfaaa
