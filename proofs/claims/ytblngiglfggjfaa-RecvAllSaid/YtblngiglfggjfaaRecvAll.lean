/- Proves: whatever first number, count and size there are, in whatever order its texts come, and whatever answers are lost, the statement RecvAll returns true and leaves its arguments as they were. -/
import Derived.Test.YtblngiglfggjfaaRows
import Derived.Test.YtblngiglfggjfaaLaw
import Derived.Test.YtblngiglfggjfaaBase
import Derived.Test.YtblngiglfggjfaaOpen
import Derived.Test.YtblngiglfggjfaaSdOpen2
import Derived.Test.YtblngiglfggjfaaNmOpen
import Derived.Test.YtblngiglfggjfaaRvAlWalk
namespace Go.Proofs.Ytblngiglfggjfaa
open Go.ChangeShapes Go.WideShapes Go.ChangeAt Go.RowKit Go.ChangeMaps

theorem Try.cells_recvAll : Try.prog.cellsOf 3 = 1 := by kernel_rfl
set_option maxRecDepth 100000 in
theorem recvAll_lifted (os : Os) (started : os.Started) (H : Type) (enc : TypeId × Value → H) :
    ReturnsInHanded {} Try.checked os 4 .any (Rows.recvAllSpec.pre6 enc Try.prog Try.f4 Rows.recvAllRow.domain false) (Rows.recvAllSpec.post enc Try.prog Try.f4 false true false false) := by
  refine returnsInHanded_of_change (C := Try.checked) Try.own started (by kernel_rfl) Try.func4
    (ChangeSpec.witness6 (enc := enc) (C := Try.checked) false ⟨#[], #[.int .u32 0, .agg #[.int .i64 0, .int .i64 0], .slice none 0 0], []⟩ 8 (by kernel_rfl) (by kernel_rfl) (by kernel_rfl) (by kernel_rfl)) ?_
  intro W base args ds gs before hval0 hW hcnd _
  have hval : ∀ (j : Nat) t v, Try.f4.params[j]? = some t → args[j]? = some v → Value.okWide Try.prog W .any base t v := hval0
  have hW' := hW
  obtain ⟨p, q, hA0, hV, rfl, hfz, hnd⟩ := hW
  have hA : DataW.TrodAll enc Try.prog W 0 (fun _ => true) true Try.f4.params.toList args.toList ds p := hA0
  rw [Try.params4] at hA hval
  obtain ⟨v0, v1, v2, d0, d1, d2, p0, p1, p2, rfl, rfl, rfl, h0, h1, h2⟩ := trodAll_three hA
  obtain ⟨rfl, rfl⟩ := trodVars_none hV
  obtain ⟨z0, rfl, rfl, rfl, wz0⟩ := open_int Try.underlying22 (hval 0 22 v0 rfl rfl) h0
  obtain ⟨m0, rfl, hm0⟩ := wf_u32 wz0
  obtain ⟨ya1, yb1, rfl, hya1, hyb1⟩ := open_arr2 (hval 1 49 v1 rfl rfl) h1
  obtain ⟨xs2, hr2, hwf2, hgo2⟩ := open_nums Try.underlying50 Try.underlying3 Try.cellsI (hval 2 50 v2 rfl rfl) h2
  refine (rall_calls m0 ya1 yb1 xs2 v2 W hm0 hr2 hwf2).mono fun e W' ⟨he, ht⟩ => ?_
  subst he
  exact ⟨_, rfl, law_post (P := Try.prog) (tb := 4) Try.laidOut (by rw [Try.params4]; decide +kernel) rfl hW' rfl rfl rfl rfl Try.underlying4 (ht.below (Nat.le_refl _) (fun _ h => h.elim))⟩

theorem recvAll_holds : Rows.RecvAllSaid :=
  OpenClaim.holds_of_wide 4 Try.f4 rfl rfl rfl rfl rfl rfl rfl ⟨rfl, rfl, rfl, rfl, rfl⟩ rfl rfl rfl rfl rfl (by kernel_rfl) Try.func4 (by kernel_rfl)
    (of_decide_eq_true (by kernel_rfl)) (by unfold Func.isWrapper; first | (rw [if_pos (by decide +kernel)]; kernel_rfl) | (rw [if_neg (by decide +kernel)]; exact ⟨rfl, rfl⟩))
    (fun os started H enc _ => recvAll_lifted os started H enc)

end Go.Proofs.Ytblngiglfggjfaa
