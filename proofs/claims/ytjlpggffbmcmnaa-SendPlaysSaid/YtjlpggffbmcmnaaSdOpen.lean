/- An argument opened: a slice of acts on a window. -/
import Derived.Test.YtjlpggffbmcmnaaBase
import Derived.Test.YtjlpggffbmcmnaaOpen
import Derived.Test.YtjlpggffbmcmnaaArr
import Derived.ProofKit
import Derived.ChangeArms
namespace Go.Proofs.Ytjlpggffbmcmnaa
open Go Go.RowKit Go.WideShapes Go.ChangeShapes Go.ChangeMaps
set_option maxRecDepth 100000

/-- An act on a window: its kind, how near the base, or a number, bits. -/
structure ZAct where
  what : Int
  near : Int
  raw : Bool
  upto : Nat
  bits : Nat

def InI (z : Int) : Prop := -9223372036854775808 ≤ z ∧ z ≤ 9223372036854775807
/-- What an act's numbers and its text may be. -/
def ZAct.ok (x : ZAct) : Prop := InI x.what ∧ InI x.near ∧ x.upto < 4294967296 ∧ x.bits < 4294967296

/-- A slice of acts, to be read. -/
def ZActs (w : World) (v : Value) (l : List ZAct) : Prop :=
  ∃ a cap, v = .slice a l.length cap ∧ l.length ≤ cap ∧ cap ≤ maxLen ∧ (∀ x ∈ l, x.ok) ∧
    (l = [] ∨ ∃ g off, a = some ⟨g, off, none⟩ ∧ g < w.heap.size ∧ ∀ j t, l[j]? = some t →
      w.cell? ⟨g, off + j * 5, none⟩ = some (.int .i64 t.what) ∧ w.cell? ⟨g, off + j * 5 + 1, none⟩ = some (.int .i64 t.near) ∧ w.cell? ⟨g, off + j * 5 + 2, none⟩ = some (.bool t.raw) ∧ w.cell? ⟨g, off + j * 5 + 3, none⟩ = some (.int .u32 (t.upto : Nat)) ∧ w.cell? ⟨g, off + j * 5 + 4, none⟩ = some (.int .u32 (t.bits : Nat)))

theorem Try.cellsZAct : Try.prog.cellsOf 46 = 5 := by kernel_rfl
theorem Try.cellsIS : Try.prog.cellsOf 3 = 1 := by kernel_rfl
theorem Try.cellsSS : Try.prog.cellsOf 4 = 1 := by kernel_rfl
theorem Try.cellsUS : Try.prog.cellsOf 35 = 1 := by kernel_rfl

theorem open_zacts {H : Type} {enc : TypeId × Value → H} {W : World} {r : Reach} {b0 : Nat} {v : Value} {d : DataW H} {p : List MemPlace} (hval : Value.okWide Try.prog W r b0 37 v)
    (h : DataW.Trod enc Try.prog W 0 (fun _ => true) true 37 v d p) : ∃ l : List ZAct, ZActs W v l := by
  obtain ⟨a, n, cap, rfl, hn, hcap, hel⟩ := open_slice_any Try.underlying37 Try.cellsZAct (by decide) hval h
  rcases hel with rfl | ⟨g, off, rfl, hg, hel⟩
  · exact ⟨[], a, cap, rfl, Nat.zero_le _, hcap, fun x hx => (by cases hx), .inl rfl⟩
  · have each : ∀ i, ∃ q : ZAct, q.ok ∧
        (i < n → W.cell? ⟨g, off + i * 5, none⟩ = some (.int .i64 q.what) ∧ W.cell? ⟨g, off + i * 5 + 1, none⟩ = some (.int .i64 q.near) ∧ W.cell? ⟨g, off + i * 5 + 2, none⟩ = some (.bool q.raw) ∧ W.cell? ⟨g, off + i * 5 + 3, none⟩ = some (.int .u32 (q.upto : Nat)) ∧ W.cell? ⟨g, off + i * 5 + 4, none⟩ = some (.int .u32 (q.bits : Nat))) := by
      intro i
      by_cases hi : i < n
      · obtain ⟨cs, f, y, hl, hc, ht⟩ := hel i hi
        obtain ⟨xs, m, _, _, _, hxl, hf⟩ := DataW.trod_struct Try.underlying46 ht
        match cs, hl with
        | [c0, c1, c2, c3, c4], _ =>
          have k0 := hc 0 (by decide)
          have k1 := hc 1 (by decide)
          have k2 := hc 2 (by decide)
          have k3 := hc 3 (by decide)
          have k4 := hc 4 (by decide)
          match xs, hxl with
          | [x0, x1, x2, x3, x4], _ =>
            have f0 : DataW.trod enc Try.prog W 0 (fun _ => true) true m 3 [c0] = some x0 := by simpa [Try.cellsIS] using hf 0 _ rfl
            have f1 : DataW.trod enc Try.prog W 0 (fun _ => true) true m 3 [c1] = some x1 := by simpa [Try.cellsIS] using hf 1 _ rfl
            have f2 : DataW.trod enc Try.prog W 0 (fun _ => true) true m 4 [c2] = some x2 := by simpa [Try.cellsIS, Try.cellsSS] using hf 2 _ rfl
            have f3 : DataW.trod enc Try.prog W 0 (fun _ => true) true m 35 [c3] = some x3 := by simpa [Try.cellsIS, Try.cellsSS, Try.cellsUS] using hf 3 _ rfl
            have f4 : DataW.trod enc Try.prog W 0 (fun _ => true) true m 35 [c4] = some x4 := by simpa [Try.cellsIS, Try.cellsSS, Try.cellsUS] using hf 4 _ rfl
            obtain ⟨n0, e0, _, w0⟩ := DataW.trod_int Try.underlying3 f0
            obtain ⟨n1, e1, _, w1⟩ := DataW.trod_int Try.underlying3 f1
            obtain ⟨n2, e2, _⟩ := DataW.trod_bool Try.underlying4 f2
            obtain ⟨n3, e3, _, w3⟩ := DataW.trod_int Try.underlying35 f3
            obtain ⟨n4, e4, _, w4⟩ := DataW.trod_int Try.underlying35 f4
            injection e0 with e0 _; injection e1 with e1 _; injection e2 with e2 _; injection e3 with e3 _; injection e4 with e4 _
            subst e0; subst e1; subst e2; subst e3; subst e4
            obtain ⟨u3, rfl, g3⟩ := wf_u32 w3
            obtain ⟨u4, rfl, g4⟩ := wf_u32 w4
            exact ⟨⟨n0, n1, n2, u3, u4⟩, ⟨wf_i64 w0, wf_i64 w1, g3, g4⟩, fun _ => ⟨k0, k1, k2, k3, k4⟩⟩
      · exact ⟨⟨0, 0, false, 0, 0⟩, ⟨⟨by decide, by decide⟩, ⟨by decide, by decide⟩, by decide, by decide⟩, fun h => absurd h hi⟩
    obtain ⟨f, hf⟩ := Classical.axiomOfChoice each
    refine ⟨(List.range n).map f, some ⟨g, off, none⟩, cap, by simp, by simpa using hn, hcap, fun x hx => ?_, .inr ⟨g, off, rfl, hg, fun j t ht => ?_⟩⟩
    · obtain ⟨i, _, rfl⟩ := List.mem_map.1 hx
      exact (hf i).1
    · rw [List.getElem?_map] at ht
      by_cases hj : j < n
      · rw [List.getElem?_range hj] at ht
        have := Option.some.inj ht
        subst this
        exact (hf j).2 hj
      · rw [List.getElem?_eq_none (by simp; omega)] at ht
        cases ht

theorem ZActs.form {w : World} {v : Value} {l : List ZAct} (h : ZActs w v l) : ∃ a cap, v = .slice a l.length cap ∧ l.length ≤ cap ∧ cap ≤ maxLen := by
  obtain ⟨a, cap, rfl, h1, h2, _⟩ := h
  exact ⟨a, cap, rfl, h1, h2⟩
theorem ZActs.still {w w' : World} {v : Value} {l : List ZAct} (h : ZActs w v l) (hT : Touch (fun _ => False) w w') : ZActs w' v l := by
  obtain ⟨a, cap, rfl, h1, h2, h3, h4⟩ := h
  refine ⟨a, cap, rfl, h1, h2, h3, ?_⟩
  rcases h4 with h4 | ⟨g, off, rfl, hg, h5⟩
  · exact .inl h4
  · exact .inr ⟨g, off, rfl, Nat.lt_of_lt_of_le hg hT.size, fun j t ht => ⟨hT.cell (h5 j t ht).1 id, hT.cell (h5 j t ht).2.1 id, hT.cell (h5 j t ht).2.2.1 id, hT.cell (h5 j t ht).2.2.2.1 id, hT.cell (h5 j t ht).2.2.2.2 id⟩⟩
theorem ZActs.at' {w : World} {v : Value} {l : List ZAct} (h : ZActs w v l) {k : Nat} (hk : k < l.length) : ∃ g off cap, v = .slice (some ⟨g, off, none⟩) l.length cap ∧ g < w.heap.size ∧ l[k].ok ∧
      w.cell? ⟨g, off + k * 5, none⟩ = some (.int .i64 l[k].what) ∧ w.cell? ⟨g, off + k * 5 + 1, none⟩ = some (.int .i64 l[k].near) ∧ w.cell? ⟨g, off + k * 5 + 2, none⟩ = some (.bool l[k].raw) ∧ w.cell? ⟨g, off + k * 5 + 3, none⟩ = some (.int .u32 (l[k].upto : Nat)) ∧ w.cell? ⟨g, off + k * 5 + 4, none⟩ = some (.int .u32 (l[k].bits : Nat)) := by
  obtain ⟨a, cap, rfl, h1, h2, h3, h4⟩ := h
  rcases h4 with rfl | ⟨g, off, rfl, hg, h5⟩
  · exact absurd hk (Nat.not_lt_zero _)
  · exact ⟨g, off, cap, rfl, hg, h3 _ (List.getElem_mem hk), h5 k l[k] (List.getElem?_eq_getElem hk)⟩
end Go.Proofs.Ytjlpggffbmcmnaa
