/- An argument that is a slice of acts, opened to its cells; numbers out of their kinds' bounds. -/
import Derived.Test.YtmkbcbkgficnkaaRows
import Derived.Test.YtmkbcbkgficnkaaBase
import Derived.Test.YtmkbcbkgficnkaaOpen
import Derived.Test.YtmkbcbkgficnkaaBitsWrWalk
namespace Go.Proofs.Ytmkbcbkgficnkaa
open Go Go.ChangeShapes Go.WideShapes Go.ChangeAt Go.RowKit

theorem Try.cellsAct : Try.prog.cellsOf 30 = 4 := by kernel_rfl
theorem Try.cellsInt : Try.prog.cellsOf 3 = 1 := by kernel_rfl
theorem Try.cellsU64 : Try.prog.cellsOf 25 = 1 := by kernel_rfl
theorem Try.cellsStr : Try.prog.cellsOf 9 = 1 := by kernel_rfl

theorem open_acts {H : Type} {enc : TypeId × Value → H} {W : World} {r : Reach} {b0 : Nat} {v : Value} {d : DataW H} {p : List MemPlace} (hval : Value.okWide Try.prog W r b0 22 v)
    (h : DataW.Trod enc Try.prog W 0 (fun _ => true) true 22 v d p) : ∃ n What V N T, ActsAt W v n What V N T := by
  obtain ⟨a, n, cap, rfl, hn, hcap, hel⟩ := open_slice_any Try.underlying22 Try.cellsAct (by decide) hval h
  unfold maxLen at hcap
  rcases hel with rfl | ⟨g, off, rfl, hg, hel⟩
  · exact ⟨0, fun _ => 0, fun _ => 0, fun _ => 0, fun _ => ⟨#[]⟩, ⟨_, _, rfl⟩, fun h => by omega, by omega, fun i h => by omega⟩
  · have each : ∀ i, ∃ q : Int × Nat × Int × ByteArray, i < n → (W.cell? ⟨g, off + i * 4, none⟩ = some (.int .i64 q.1) ∧ W.cell? ⟨g, off + i * 4 + 1, none⟩ = some (.int .u64 q.2.1) ∧ W.cell? ⟨g, off + i * 4 + 2, none⟩ = some (.int .i64 q.2.2.1) ∧ W.cell? ⟨g, off + i * 4 + 3, none⟩ = some (.string q.2.2.2)) ∧
        (-9223372036854775808 ≤ q.1 ∧ q.1 ≤ 9223372036854775807) ∧ q.2.1 < 18446744073709551616 ∧ (-9223372036854775808 ≤ q.2.2.1 ∧ q.2.2.1 ≤ 9223372036854775807) ∧ q.2.2.2.size ≤ 9223372036854775807 := by
      intro i
      by_cases hi : i < n
      · obtain ⟨cs, f, y, hl, hc, ht⟩ := hel i hi
        obtain ⟨xs, m, _, _, _, hxl, hf⟩ := DataW.trod_struct Try.underlying30 ht
        match cs, hl with
        | [c0, c1, c2, c3], _ =>
          have k0 := hc 0 (by decide)
          have k1 := hc 1 (by decide)
          have k2 := hc 2 (by decide)
          have k3 := hc 3 (by decide)
          match xs, hxl with
          | [x0, x1, x2, x3], _ =>
            have f0 : DataW.trod enc Try.prog W 0 (fun _ => true) true m 3 [c0] = some x0 := by simpa [Try.cellsInt] using hf 0 _ rfl
            have f1 : DataW.trod enc Try.prog W 0 (fun _ => true) true m 25 [c1] = some x1 := by simpa [Try.cellsU64] using hf 1 _ rfl
            have f2 : DataW.trod enc Try.prog W 0 (fun _ => true) true m 3 [c2] = some x2 := by simpa [Try.cellsInt] using hf 2 _ rfl
            have f3 : DataW.trod enc Try.prog W 0 (fun _ => true) true m 9 [c3] = some x3 := by simpa [Try.cellsStr] using hf 3 _ rfl
            obtain ⟨n0, e0, _, w0⟩ := DataW.trod_int Try.underlying3 f0
            obtain ⟨n1, e1, _, w1⟩ := DataW.trod_int Try.underlying25 f1
            obtain ⟨n2, e2, _, w2⟩ := DataW.trod_int Try.underlying3 f2
            obtain ⟨s3, e3, _, w3⟩ := DataW.trod_string Try.underlying9 f3
            injection e0 with e0 _; injection e1 with e1 _; injection e2 with e2 _; injection e3 with e3 _
            subst e0; subst e1; subst e2; subst e3
            obtain ⟨m1, rfl, hm1⟩ := wf_u64 w1
            unfold maxLen at w3
            exact ⟨(n0, m1, n2, s3), fun _ => ⟨⟨k0, k1, k2, k3⟩, wf_i64 w0, hm1, wf_i64 w2, by omega⟩⟩
      · exact ⟨(0, 0, 0, ⟨#[]⟩), fun h => absurd h hi⟩
    obtain ⟨f, hf⟩ := Classical.axiomOfChoice each
    exact ⟨n, fun i => (f i).1, fun i => (f i).2.1, fun i => (f i).2.2.1, fun i => (f i).2.2.2, ⟨_, _, rfl⟩, fun _ => ⟨g, off, cap, rfl, hg, hn, fun i hi => (hf i hi).1⟩, by omega, fun i hi => (hf i hi).2⟩

end Go.Proofs.Ytmkbcbkgficnkaa
