/- An argument that is a time, opened to its six numbers. -/
import Derived.Test.YtbhjeolhndpnfaaRows
import Derived.Test.YtbhjeolhndpnfaaBase
import Derived.Test.YtbhjeolhndpnfaaDosB
import Derived.ProofKit
import Derived.ChangeShapes
namespace Go.Proofs.Ytbhjeolhndpnfaa
open Go Go.ChangeShapes Go.WideShapes Go.ChangeAt Go.RowKit
set_option maxRecDepth 100000

theorem Try.cellsTime : Try.prog.cellsOf 23 = 6 := by kernel_rfl
theorem Try.cellsI : Try.prog.cellsOf 3 = 1 := by kernel_rfl

theorem open_time {H : Type} {enc : TypeId × Value → H} {W : World} {r : Reach} {b0 : Nat} {v : Value} {d : DataW H} {p : List MemPlace} (hval : Value.okWide Try.prog W r b0 23 v)
    (h : DataW.Trod enc Try.prog W 0 (fun _ => true) true 23 v d p) : ∃ t : Tim, v = t.v ∧
      (-9223372036854775808 ≤ t.y ∧ t.y ≤ 9223372036854775807) ∧ (-9223372036854775808 ≤ t.mo ∧ t.mo ≤ 9223372036854775807) ∧ (-9223372036854775808 ≤ t.d ∧ t.d ≤ 9223372036854775807) := by
  obtain ⟨cs, rfl, hs⟩ := okWide_struct Try.underlying23 hval
  rw [Try.cellsTime] at hs
  obtain ⟨fuel, hf⟩ := h
  obtain ⟨xs, m, _, _, _, hxl, hx⟩ := DataW.trod_struct Try.underlying23 hf
  obtain ⟨l⟩ := cs
  match l, hs with
  | [c0, c1, c2, c3, c4, c5], _ =>
    match xs, hxl with
    | [x0, x1, x2, x3, x4, x5], _ =>
      have f0 : DataW.trod enc Try.prog W 0 (fun _ => true) true m 3 [c0] = some x0 := by simpa [Try.cellsI, Value.cells] using hx 0 _ rfl
      have f1 : DataW.trod enc Try.prog W 0 (fun _ => true) true m 3 [c1] = some x1 := by simpa [Try.cellsI, Value.cells] using hx 1 _ rfl
      have f2 : DataW.trod enc Try.prog W 0 (fun _ => true) true m 3 [c2] = some x2 := by simpa [Try.cellsI, Value.cells] using hx 2 _ rfl
      have f3 : DataW.trod enc Try.prog W 0 (fun _ => true) true m 3 [c3] = some x3 := by simpa [Try.cellsI, Value.cells] using hx 3 _ rfl
      have f4 : DataW.trod enc Try.prog W 0 (fun _ => true) true m 3 [c4] = some x4 := by simpa [Try.cellsI, Value.cells] using hx 4 _ rfl
      have f5 : DataW.trod enc Try.prog W 0 (fun _ => true) true m 3 [c5] = some x5 := by simpa [Try.cellsI, Value.cells] using hx 5 _ rfl
      obtain ⟨n0, e0, _, w0⟩ := DataW.trod_int Try.underlying3 f0
      obtain ⟨n1, e1, _, w1⟩ := DataW.trod_int Try.underlying3 f1
      obtain ⟨n2, e2, _, w2⟩ := DataW.trod_int Try.underlying3 f2
      obtain ⟨n3, e3, _, _⟩ := DataW.trod_int Try.underlying3 f3
      obtain ⟨n4, e4, _, _⟩ := DataW.trod_int Try.underlying3 f4
      obtain ⟨n5, e5, _, _⟩ := DataW.trod_int Try.underlying3 f5
      injection e0 with e0 _; injection e1 with e1 _; injection e2 with e2 _; injection e3 with e3 _; injection e4 with e4 _; injection e5 with e5 _
      subst e0; subst e1; subst e2; subst e3; subst e4; subst e5
      exact ⟨⟨n0, n1, n2, n3, n4, n5⟩, rfl, wf_i64 w0, wf_i64 w1, wf_i64 w2⟩
end Go.Proofs.Ytbhjeolhndpnfaa
