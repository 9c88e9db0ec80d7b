/- Proves: whatever numbers are written, and in whatever pieces they come, the statement BitsBack of layer 1 returns true and leaves its arguments as they were. -/
import Derived.Test.YtmkbcbkgficnkaaRows
import Derived.Test.YtmkbcbkgficnkaaBase
import Derived.Test.YtmkbcbkgficnkaaLaw
import Derived.Test.YtmkbcbkgficnkaaOpen
import Derived.Test.YtmkbcbkgficnkaaBitsBackWalk
import Derived.OpenShut
namespace Go.Proofs.Ytmkbcbkgficnkaa
open Go Go.ChangeShapes Go.WideShapes Go.ChangeAt Go.RowKit

theorem Try.cellsPair : Try.prog.cellsOf 46 = 2 := by kernel_rfl
theorem Try.cellsNum : Try.prog.cellsOf 25 = 1 := by kernel_rfl

theorem open_pairs {H : Type} {enc : TypeId × Value → H} {W : World} {r : Reach} {b0 : Nat} {v : Value} {d : DataW H} {p : List MemPlace} (hval : Value.okWide Try.prog W r b0 45 v)
    (h : DataW.Trod enc Try.prog W 0 (fun _ => true) true 45 v d p) : ∃ n A B, PairsAt W v n A B := by
  obtain ⟨a, n, cap, rfl, hn, hcap, hel⟩ := open_slice_any Try.underlying45 Try.cellsPair (by decide) hval h
  unfold maxLen at hcap
  rcases hel with rfl | ⟨g, off, rfl, hg, hel⟩
  · exact ⟨0, fun _ => 0, fun _ => 0, ⟨_, _, rfl⟩, fun h => by omega, by omega, fun i h => by omega⟩
  · have each : ∀ i, ∃ q : Nat × Nat, i < n → (W.cell? ⟨g, off + i * 2, none⟩ = some (.int .u64 q.1) ∧ W.cell? ⟨g, off + i * 2 + 1, none⟩ = some (.int .u64 q.2)) ∧ q.1 < 18446744073709551616 ∧ q.2 < 18446744073709551616 := by
      intro i
      by_cases hi : i < n
      · obtain ⟨cs, f, y, hl, hc, ht⟩ := hel i hi
        obtain ⟨xs, m, _, _, _, hxl, hf⟩ := DataW.trod_array Try.underlying46 ht
        match cs, hl with
        | [c0, c1], _ =>
          have k0 := hc 0 (by decide)
          have k1 := hc 1 (by decide)
          match xs, hxl with
          | [x0, x1], _ =>
            have f0 : DataW.trod enc Try.prog W 0 (fun _ => true) true m 25 [c0] = some x0 := by simpa [Try.cellsNum] using hf 0 (by decide)
            have f1 : DataW.trod enc Try.prog W 0 (fun _ => true) true m 25 [c1] = some x1 := by simpa [Try.cellsNum] using hf 1 (by decide)
            obtain ⟨n0, e0, _, w0⟩ := DataW.trod_int Try.underlying25 f0
            obtain ⟨n1, e1, _, w1⟩ := DataW.trod_int Try.underlying25 f1
            injection e0 with e0 _; injection e1 with e1 _
            subst e0; subst e1
            obtain ⟨m0, rfl, hm0⟩ := wf_u64 w0
            obtain ⟨m1, rfl, hm1⟩ := wf_u64 w1
            exact ⟨(m0, m1), fun _ => ⟨⟨k0, k1⟩, hm0, hm1⟩⟩
      · exact ⟨(0, 0), fun h => absurd h hi⟩
    obtain ⟨f, hf⟩ := Classical.axiomOfChoice each
    exact ⟨n, fun i => (f i).1, fun i => (f i).2, ⟨_, _, rfl⟩, fun _ => ⟨g, off, cap, rfl, hg, hn, fun i hi => (hf i hi).1⟩, by omega, fun i hi => (hf i hi).2⟩

set_option maxRecDepth 100000 in
theorem bitsBack_lifted (os : Os) (started : os.Started) (H : Type) (enc : TypeId × Value → H) :
    ReturnsInHanded {} Try.checked os 5 .any (Rows.bitsBackSpec.pre6 enc Try.prog Try.f5 Rows.bitsBackRow.domain false) (Rows.bitsBackSpec.post enc Try.prog Try.f5 false true false false) := by
  refine returnsInHanded_of_change (C := Try.checked) Try.own started (by kernel_rfl) Try.func5
    (ChangeSpec.witness6 (enc := enc) (C := Try.checked) false ⟨#[], #[.slice none 0 0, .int .i64 0], []⟩ 8 (by kernel_rfl) (by kernel_rfl) (by kernel_rfl) (by kernel_rfl)) ?_
  intro W base args ds gs before hval0 hW hcnd _
  have hval : ∀ (j : Nat) t v, Try.f5.params[j]? = some t → args[j]? = some v → Value.okWide Try.prog W .any base t v := hval0
  have hW' := hW
  obtain ⟨p, q, hA0, hV, rfl, hfz, hnd⟩ := hW
  have hA : DataW.TrodAll enc Try.prog W 0 (fun _ => true) true Try.f5.params.toList args.toList ds p := hA0
  rw [Try.params5] at hA hval
  obtain ⟨v0, v1, d0, d1, p0, p1, rfl, rfl, rfl, h0, h1⟩ := trodAll_two hA
  obtain ⟨rfl, rfl⟩ := trodVars_none hV
  obtain ⟨n, A, B, hpairs⟩ := open_pairs (hval 0 45 v0 rfl rfl) h0
  obtain ⟨c, rfl, rfl, rfl, wc⟩ := open_int Try.underlying3 (hval 1 3 v1 rfl rfl) h1
  refine (back_calls n v0 A B c W hpairs).mono fun e W' ⟨he, ht⟩ => ?_
  subst he
  exact ⟨_, rfl, law_post (P := Try.prog) (tb := 4) Try.laidOut (by rw [Try.params5]; decide +kernel) rfl hW' rfl rfl rfl rfl Try.underlying4 (ht.below (Nat.le_refl _) (fun _ h => h.elim))⟩

theorem bitsBack_holds : Rows.BitsBackSaid :=
  OpenClaim.holds_of_wide 5 Try.f5 rfl rfl rfl rfl rfl rfl rfl ⟨rfl, rfl, rfl, rfl, rfl⟩ rfl rfl rfl rfl rfl (by kernel_rfl) Try.func5 (by kernel_rfl)
    (of_decide_eq_true (by kernel_rfl)) (by unfold Func.isWrapper; first | (rw [if_pos (by decide +kernel)]; kernel_rfl) | (rw [if_neg (by decide +kernel)]; exact ⟨rfl, rfl⟩))
    (fun os started H enc _ => bitsBack_lifted os started H enc)

end Go.Proofs.Ytmkbcbkgficnkaa
