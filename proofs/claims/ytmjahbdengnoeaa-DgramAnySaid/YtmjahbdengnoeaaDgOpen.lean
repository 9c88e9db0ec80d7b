/- An argument that is a datagram of layer 22's statements, opened to its nine parts. -/
import Derived.Test.YtmjahbdengnoeaaRows
import Derived.Test.YtmjahbdengnoeaaBase
import Derived.Test.YtmjahbdengnoeaaOpen
import Derived.Test.YtmjahbdengnoeaaDgI
import Derived.ProofKit
import Derived.ChangeShapes
import Derived.ChangeArms
namespace Go.Proofs.Ytmjahbdengnoeaa
open Go Go.ChangeShapes Go.WideShapes Go.ChangeAt Go.RowKit
set_option maxRecDepth 100000

theorem Try.cellsDg : Try.prog.cellsOf 36 = 9 := by kernel_rfl
theorem Try.cellsIntD : Try.prog.cellsOf 3 = 1 := by kernel_rfl
theorem Try.cellsBoolD : Try.prog.cellsOf 4 = 1 := by kernel_rfl
theorem Try.cellsStrD : Try.prog.cellsOf 9 = 1 := by kernel_rfl
theorem Try.cellsU64D : Try.prog.cellsOf 34 = 1 := by kernel_rfl
theorem Try.cellsU32D : Try.prog.cellsOf 22 = 1 := by kernel_rfl
theorem open_dgram {H : Type} {enc : TypeId × Value → H} {W : World} {r : Reach} {b0 : Nat} {v : Value} {d : DataW H} {p : List MemPlace} (hval : Value.okWide Try.prog W r b0 36 v)
    (h : DataW.Trod enc Try.prog W 0 (fun _ => true) true 36 v d p) : ∃ x : Dg, v = x.v ∧ x.Wf ∧ x.text.size ≤ 9223372036854775807 := by
  obtain ⟨cs, rfl, hs⟩ := okWide_struct Try.underlying36 hval
  rw [Try.cellsDg] at hs
  obtain ⟨fuel, hf⟩ := h
  obtain ⟨xs, m, _, _, _, hxl, hx⟩ := DataW.trod_struct Try.underlying36 hf
  obtain ⟨l⟩ := cs
  match l, hs with
  | [c0, c1, c2, c3, c4, c5, c6, c7, c8], _ =>
    match xs, hxl with
    | [x0, x1, x2, x3, x4, x5, x6, x7, x8], _ =>
      have f0 : DataW.trod enc Try.prog W 0 (fun _ => true) true m 3 [c0] = some x0 := by simpa [Try.cellsIntD, Value.cells] using hx 0 _ rfl
      have f1 : DataW.trod enc Try.prog W 0 (fun _ => true) true m 22 [c1] = some x1 := by simpa [Try.cellsU32D, Value.cells] using hx 1 _ rfl
      have f2 : DataW.trod enc Try.prog W 0 (fun _ => true) true m 22 [c2] = some x2 := by simpa [Try.cellsU32D, Value.cells] using hx 2 _ rfl
      have f3 : DataW.trod enc Try.prog W 0 (fun _ => true) true m 22 [c3] = some x3 := by simpa [Try.cellsU32D, Value.cells] using hx 3 _ rfl
      have f4 : DataW.trod enc Try.prog W 0 (fun _ => true) true m 34 [c4] = some x4 := by simpa [Try.cellsU64D, Value.cells] using hx 4 _ rfl
      have f5 : DataW.trod enc Try.prog W 0 (fun _ => true) true m 22 [c5] = some x5 := by simpa [Try.cellsU32D, Value.cells] using hx 5 _ rfl
      have f6 : DataW.trod enc Try.prog W 0 (fun _ => true) true m 22 [c6] = some x6 := by simpa [Try.cellsU32D, Value.cells] using hx 6 _ rfl
      have f7 : DataW.trod enc Try.prog W 0 (fun _ => true) true m 4 [c7] = some x7 := by simpa [Try.cellsBoolD, Value.cells] using hx 7 _ rfl
      have f8 : DataW.trod enc Try.prog W 0 (fun _ => true) true m 9 [c8] = some x8 := by simpa [Try.cellsStrD, Value.cells] using hx 8 _ rfl
      obtain ⟨kd, e0, _, w0⟩ := DataW.trod_int Try.underlying3 f0
      obtain ⟨se', e1, _, w1⟩ := DataW.trod_int Try.underlying22 f1
      obtain ⟨ep', e2, _, w2⟩ := DataW.trod_int Try.underlying22 f2
      obtain ⟨sq', e3, _, w3⟩ := DataW.trod_int Try.underlying22 f3
      obtain ⟨ps', e4, _, w4⟩ := DataW.trod_int Try.underlying34 f4
      obtain ⟨sm', e5, _, w5⟩ := DataW.trod_int Try.underlying22 f5
      obtain ⟨mp', e6, _, w6⟩ := DataW.trod_int Try.underlying22 f6
      obtain ⟨la, e7, _⟩ := DataW.trod_bool Try.underlying4 f7
      obtain ⟨tx, e8, _, w8⟩ := DataW.trod_string Try.underlying9 f8
      injection e0 with e0 _; injection e1 with e1 _; injection e2 with e2 _; injection e3 with e3 _; injection e4 with e4 _; injection e5 with e5 _; injection e6 with e6 _; injection e7 with e7 _; injection e8 with e8 _
      subst e0; subst e1; subst e2; subst e3; subst e4; subst e5; subst e6; subst e7; subst e8
      obtain ⟨se, rfl, g1⟩ := wf_u32 w1
      obtain ⟨ep, rfl, g2⟩ := wf_u32 w2
      obtain ⟨sq, rfl, g3⟩ := wf_u32 w3
      obtain ⟨ps, rfl, g4⟩ := wf_u64 w4
      obtain ⟨sm, rfl, g5⟩ := wf_u32 w5
      obtain ⟨mp, rfl, g6⟩ := wf_u32 w6
      exact ⟨⟨kd, se, ep, sq, ps, sm, mp, la, tx⟩, rfl, ⟨(wf_i64 w0).1, (wf_i64 w0).2, g1, g2, g3, g4, g5, g6⟩, w8⟩
end Go.Proofs.Ytmjahbdengnoeaa
