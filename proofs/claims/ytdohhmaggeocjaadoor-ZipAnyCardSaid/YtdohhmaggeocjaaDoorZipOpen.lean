/- An argument that is a head of layer 13's statements, opened to its seven parts. -/
import Derived.Test.YtdohhmaggeocjaaDoorRows
import Derived.Test.YtdohhmaggeocjaaDoorBase
import Derived.Test.YtdohhmaggeocjaaDoorOpen
import Derived.Test.YtdohhmaggeocjaaDoorZipN
import Derived.ProofKit
import Derived.ChangeShapes
import Derived.ChangeArms
namespace Go.Proofs.YtdohhmaggeocjaaDoor
open Go Go.ChangeShapes Go.WideShapes Go.ChangeAt Go.RowKit
set_option maxRecDepth 100000

theorem Tryd.cellsArg : Tryd.prog.cellsOf 44 = 7 := by kernel_rfl
theorem Tryd.cells3 : Tryd.prog.cellsOf 3 = 1 := by kernel_rfl
theorem Tryd.cells4 : Tryd.prog.cellsOf 4 = 1 := by kernel_rfl
theorem Tryd.cells9 : Tryd.prog.cellsOf 9 = 1 := by kernel_rfl
theorem Tryd.cells39 : Tryd.prog.cellsOf 39 = 1 := by kernel_rfl
theorem Tryd.cells42 : Tryd.prog.cellsOf 42 = 1 := by kernel_rfl
theorem open_head {H : Type} {enc : TypeId × Value → H} {W : World} {r : Reach} {b0 : Nat} {v : Value} {d : DataW H} {p : List MemPlace} (hval : Value.okWide Tryd.prog W r b0 44 v)
    (h : DataW.Trod enc Tryd.prog W 0 (fun _ => true) true 44 v d p) : ∃ (n : ByteArray) (tm : Int) (q z s a : Nat) (k : Bool), v = argV n tm q z s a k ∧
      n.size ≤ 9223372036854775807 ∧ tm ≤ 9223372036854775807 ∧ q < 18446744073709551616 ∧ z < 18446744073709551616 ∧ s < 4294967296 ∧ a < 18446744073709551616 := by
  obtain ⟨cs, rfl, hs⟩ := okWide_struct Tryd.underlying44 hval
  rw [Tryd.cellsArg] at hs
  obtain ⟨fuel, hf⟩ := h
  obtain ⟨xs, m, _, _, _, hxl, hx⟩ := DataW.trod_struct Tryd.underlying44 hf
  obtain ⟨l⟩ := cs
  match l, hs with
  | [c0, c1, c2, c3, c4, c5, c6], _ =>
    match xs, hxl with
    | [x0, x1, x2, x3, x4, x5, x6], _ =>
      have f0 : DataW.trod enc Tryd.prog W 0 (fun _ => true) true m 9 [c0] = some x0 := by simpa [Tryd.cells9, Value.cells] using hx 0 _ rfl
      have f1 : DataW.trod enc Tryd.prog W 0 (fun _ => true) true m 3 [c1] = some x1 := by simpa [Tryd.cells3, Value.cells] using hx 1 _ rfl
      have f2 : DataW.trod enc Tryd.prog W 0 (fun _ => true) true m 39 [c2] = some x2 := by simpa [Tryd.cells39, Value.cells] using hx 2 _ rfl
      have f3 : DataW.trod enc Tryd.prog W 0 (fun _ => true) true m 39 [c3] = some x3 := by simpa [Tryd.cells39, Value.cells] using hx 3 _ rfl
      have f4 : DataW.trod enc Tryd.prog W 0 (fun _ => true) true m 42 [c4] = some x4 := by simpa [Tryd.cells42, Value.cells] using hx 4 _ rfl
      have f5 : DataW.trod enc Tryd.prog W 0 (fun _ => true) true m 39 [c5] = some x5 := by simpa [Tryd.cells39, Value.cells] using hx 5 _ rfl
      have f6 : DataW.trod enc Tryd.prog W 0 (fun _ => true) true m 4 [c6] = some x6 := by simpa [Tryd.cells4, Value.cells] using hx 6 _ rfl
      obtain ⟨n, e0, _, w0⟩ := DataW.trod_string Tryd.underlying9 f0
      obtain ⟨tm, e1, _, w1⟩ := DataW.trod_int Tryd.underlying3 f1
      obtain ⟨q', e2, _, w2⟩ := DataW.trod_int Tryd.underlying39 f2
      obtain ⟨z', e3, _, w3⟩ := DataW.trod_int Tryd.underlying39 f3
      obtain ⟨s', e4, _, w4⟩ := DataW.trod_int Tryd.underlying42 f4
      obtain ⟨a', e5, _, w5⟩ := DataW.trod_int Tryd.underlying39 f5
      obtain ⟨k, e6, _⟩ := DataW.trod_bool Tryd.underlying4 f6
      injection e0 with e0 _; injection e1 with e1 _; injection e2 with e2 _; injection e3 with e3 _; injection e4 with e4 _; injection e5 with e5 _; injection e6 with e6 _
      subst e0; subst e1; subst e2; subst e3; subst e4; subst e5; subst e6
      obtain ⟨q, rfl, g2⟩ := wf_u64 w2
      obtain ⟨z, rfl, g3⟩ := wf_u64 w3
      obtain ⟨s, rfl, g4⟩ := wf_u32 w4
      obtain ⟨a, rfl, g5⟩ := wf_u64 w5
      exact ⟨n, tm, q, z, s, a, k, rfl, w0, (wf_i64 w1).2, g2, g3, g4, g5⟩
end Go.Proofs.YtdohhmaggeocjaaDoor
