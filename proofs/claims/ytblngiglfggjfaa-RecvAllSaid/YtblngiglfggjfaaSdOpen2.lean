/- An argument that is an array of two numbers, opened. -/
import Derived.Test.YtblngiglfggjfaaBase
import Derived.Test.YtblngiglfggjfaaOpen
import Derived.ProofKit
import Derived.ChangeShapes
import Derived.ChangeArms
import Derived.OpenShut
namespace Go.Proofs.Ytblngiglfggjfaa
open Go Go.ChangeShapes Go.WideShapes Go.ChangeAt Go.RowKit
set_option maxRecDepth 100000

theorem Try.cellsIntA : Try.prog.cellsOf 3 = 1 := by kernel_rfl
theorem Try.cellsArr : Try.prog.cellsOf 49 = 2 := by kernel_rfl
theorem okWide_arrB {P : Program} {W : World} {r : Reach} {b0 : Nat} {t e : TypeId} {n : Nat} {v : Value} (ht : P.underlying t = some (.array n e)) (h : Value.okWide P W r b0 t v) : ∃ cs, v = .agg cs ∧ cs.size = P.cellsOf t := by
  simp only [Value.okWide, ht] at h
  obtain ⟨cs, h1, h2, _⟩ := h
  exact ⟨cs, h1, h2⟩
theorem open_arr2 {H : Type} {enc : TypeId × Value → H} {W : World} {r : Reach} {b0 : Nat} {v : Value} {d : DataW H} {p : List MemPlace} (hval : Value.okWide Try.prog W r b0 49 v)
    (h : DataW.Trod enc Try.prog W 0 (fun _ => true) true 49 v d p) : ∃ x y : Int, v = .agg #[.int .i64 x, .int .i64 y] ∧ (-9223372036854775808 ≤ x ∧ x ≤ 9223372036854775807) ∧ (-9223372036854775808 ≤ y ∧ y ≤ 9223372036854775807) := by
  obtain ⟨cs, rfl, hs⟩ := okWide_arrB Try.underlying49 hval
  rw [Try.cellsArr] at hs
  obtain ⟨fuel, hf⟩ := h
  obtain ⟨xs, m, _, _, _, hxl, hx⟩ := DataW.trod_array Try.underlying49 hf
  obtain ⟨l⟩ := cs
  match l, hs with
  | [c0, c1], _ =>
    match xs, hxl with
    | [x0, x1], _ =>
      have f0 : DataW.trod enc Try.prog W 0 (fun _ => true) true m 3 [c0] = some x0 := by simpa [Try.cellsIntA, Value.cells] using hx 0 (by omega)
      have f1 : DataW.trod enc Try.prog W 0 (fun _ => true) true m 3 [c1] = some x1 := by simpa [Try.cellsIntA, Value.cells] using hx 1 (by omega)
      obtain ⟨a0, e0, _, w0⟩ := DataW.trod_int Try.underlying3 f0
      obtain ⟨a1, e1, _, w1⟩ := DataW.trod_int Try.underlying3 f1
      injection e0 with e0 _; injection e1 with e1 _
      subst e0; subst e1
      exact ⟨a0, a1, rfl, wf_i64 w0, wf_i64 w1⟩
end Go.Proofs.Ytblngiglfggjfaa
