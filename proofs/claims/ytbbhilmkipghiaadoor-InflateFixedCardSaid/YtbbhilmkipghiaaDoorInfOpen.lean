/- An argument that is a slice of tokens, opened to its tokens. -/
import Derived.Test.YtbbhilmkipghiaaDoorRows
import Derived.Test.YtbbhilmkipghiaaDoorBase
import Derived.Test.YtbbhilmkipghiaaDoorOpen
import Derived.Test.YtbbhilmkipghiaaDoorLzE
namespace Go.Proofs.YtbbhilmkipghiaaDoor
open Go Go.ChangeShapes Go.WideShapes Go.ChangeAt Go.RowKit
set_option maxRecDepth 100000

theorem Tryd.cellsTok : Tryd.prog.cellsOf 32 = 3 := by kernel_rfl
theorem Tryd.cellsI : Tryd.prog.cellsOf 3 = 1 := by kernel_rfl
theorem Tryd.cellsU : Tryd.prog.cellsOf 5 = 1 := by kernel_rfl

theorem open_toks {H : Type} {enc : TypeId × Value → H} {W : World} {r : Reach} {b0 : Nat} {v : Value} {d : DataW H} {p : List MemPlace} (hval : Value.okWide Tryd.prog W r b0 22 v)
    (h : DataW.Trod enc Tryd.prog W 0 (fun _ => true) true 22 v d p) : ∃ l : List Tok, Toks W v l := by
  obtain ⟨a, n, cap, rfl, hn, hcap, hel⟩ := open_slice_any Tryd.underlying22 Tryd.cellsTok (by decide) hval h
  rcases hel with rfl | ⟨g, off, rfl, hg, hel⟩
  · exact ⟨[], a, cap, rfl, Nat.zero_le _, hcap, .inl rfl⟩
  · have each : ∀ i, ∃ q : Tok, i < n → W.cell? ⟨g, off + i * 3, none⟩ = some (.int .u8 (q.b.toNat : Nat)) ∧ W.cell? ⟨g, off + i * 3 + 1, none⟩ = some (.int .i64 q.n) ∧ W.cell? ⟨g, off + i * 3 + 2, none⟩ = some (.int .i64 q.d) := by
      intro i
      by_cases hi : i < n
      · obtain ⟨cs, f, y, hl, hc, ht⟩ := hel i hi
        obtain ⟨xs, m, _, _, _, hxl, hf⟩ := DataW.trod_struct Tryd.underlying32 ht
        match cs, hl with
        | [c0, c1, c2], _ =>
          have k0 := hc 0 (by decide)
          have k1 := hc 1 (by decide)
          have k2 := hc 2 (by decide)
          match xs, hxl with
          | [x0, x1, x2], _ =>
            have f0 : DataW.trod enc Tryd.prog W 0 (fun _ => true) true m 5 [c0] = some x0 := by simpa [Tryd.cellsU] using hf 0 _ rfl
            have f1 : DataW.trod enc Tryd.prog W 0 (fun _ => true) true m 3 [c1] = some x1 := by simpa [Tryd.cellsI] using hf 1 _ rfl
            have f2 : DataW.trod enc Tryd.prog W 0 (fun _ => true) true m 3 [c2] = some x2 := by simpa [Tryd.cellsI] using hf 2 _ rfl
            obtain ⟨n0, e0, _, w0⟩ := DataW.trod_int Tryd.underlying5 f0
            obtain ⟨n1, e1, _, _⟩ := DataW.trod_int Tryd.underlying3 f1
            obtain ⟨n2, e2, _, _⟩ := DataW.trod_int Tryd.underlying3 f2
            injection e0 with e0 _; injection e1 with e1 _; injection e2 with e2 _
            subst e0; subst e1; subst e2
            obtain ⟨m0, rfl, hm0⟩ := wf_u8 w0
            have hu : (UInt8.ofNat m0).toNat = m0 := by simp; omega
            exact ⟨⟨UInt8.ofNat m0, n1, n2⟩, fun _ => ⟨by rw [hu]; exact k0, k1, k2⟩⟩
      · exact ⟨⟨0, 0, 0⟩, fun h => absurd h hi⟩
    obtain ⟨f, hf⟩ := Classical.axiomOfChoice each
    refine ⟨(List.range n).map f, some ⟨g, off, none⟩, cap, by simp, by simpa using hn, hcap, .inr ⟨g, off, rfl, fun j t ht => ?_⟩⟩
    rw [List.getElem?_map] at ht
    by_cases hj : j < n
    · rw [List.getElem?_range hj] at ht
      have := Option.some.inj ht
      subst this
      exact hf j hj
    · rw [List.getElem?_eq_none (by simp; omega)] at ht
      cases ht
end Go.Proofs.YtbbhilmkipghiaaDoor
