/- Proves: whatever head, numbers and byte there are, the statement ZipAny of layer 13 returns true and leaves its arguments as they were; the tables of package unicode/utf8 are tied to the program's text. -/
import Derived.Test.YtdohhmaggeocjaaDoorRows
import Derived.Test.YtdohhmaggeocjaaDoorCards
import Derived.Test.YtdohhmaggeocjaaDoorTie
import Derived.Test.YtdohhmaggeocjaaDoorLaw
import Derived.Test.YtdohhmaggeocjaaDoorBase
import Derived.Test.YtdohhmaggeocjaaDoorNamBase
import Derived.Test.YtdohhmaggeocjaaDoorZipOpen
import Derived.Test.YtdohhmaggeocjaaDoorZipOpen2
import Derived.Test.YtdohhmaggeocjaaDoorZipAnyWalk
namespace Go.Proofs.YtdohhmaggeocjaaDoor
open Go.ChangeShapes Go.WideShapes Go.ChangeAt Go.RowKit
open Go.ChangeMaps (open_string shut_string)

set_option maxRecDepth 100000 in
theorem zipAny_contract (H : Type) (enc : TypeId × Value → H) (W : World) (base : Nat) (args : Array Value) (ds gs : List (DataW H)) (before : List MemPlace)
    (hval : ∀ (j : Nat) t v, Tryd.f10.params[j]? = some t → args[j]? = some v → Value.okWide Tryd.prog W .any base t v)
    (hW : DataW.Whole enc Tryd.prog Tryd.f10.params.toList Rows.zipAnySpec.vars false W args.toList ds gs before) (hL : laidMetH Tryd.prog Rows.zipAnyRow.laid W) :
    Calls Tryd.prog 10 args W fun e W' => ∃ v, e = .returned v ∧ Rows.zipAnySpec.post enc Tryd.prog Tryd.f10 false true false false W args v W' := by
  have hW' := hW
  obtain ⟨p, q, hA0, hV, rfl, hfz, hnd⟩ := hW
  have hA : DataW.TrodAll enc Tryd.prog W 0 (fun _ => true) true Tryd.f10.params.toList args.toList ds p := hA0
  rw [Tryd.params10] at hA hval
  obtain ⟨v0, v1, v2, d0, d1, d2, p0, p1, p2, rfl, rfl, rfl, h0, h1, h2⟩ := trodAll_three hA
  obtain ⟨rfl, rfl⟩ := trodVars_none hV
  obtain ⟨n0, tm0, q0, z0, s0, a0, k0, rfl, g0, g1, g2, g3, g4, g5⟩ := open_head (hval 0 44 v0 rfl rfl) h0
  obtain ⟨ya1, yb1, rfl, hya1, hyb1⟩ := open_arr2 (hval 1 59 v1 rfl rfl) h1
  obtain ⟨z2, rfl, rfl, rfl, wz2⟩ := open_int Tryd.underlying5 (hval 2 5 v2 rfl rfl) h2
  obtain ⟨m2, rfl, hm2⟩ := wf_u8 wz2
  refine (zany_calls n0 tm0 q0 z0 s0 a0 k0 ya1 yb1 m2 hm2 g0 g1 g2 g3 g4 g5 hya1 hyb1 W (tabs_at hL)).mono fun e W' ⟨he, ht⟩ => ?_
  subst he
  exact ⟨_, rfl, law_post (P := Tryd.prog) (tb := 4) Tryd.laidOut (by rw [Tryd.params10]; decide +kernel) rfl hW' rfl rfl rfl rfl Tryd.underlying4 (ht.below (Nat.le_refl _) (fun _ h => h.elim))⟩

theorem zipAny_met (os : Os) : laidMet Tryd.prog Rows.zipAnyRow.laid ((laidWorld os).forCall (fun _ _ => 0) ⟨#[], #[Value.agg #[.string ⟨#[]⟩, .int .i64 0, .int .u64 0, .int .u64 0, .int .u32 0, .int .u64 0, .bool false], Value.agg #[.int .i64 0, .int .i64 0], .int .u8 0], []⟩).memory :=
  laidMet_of_run' 8 (by kernel_rfl) (by kernel_rfl)
theorem zipAny_reads (os : Os) {H : Type} (enc : TypeId × Value → H) : ∃ places, DataW.whole enc Tryd.prog ((laidWorld os).forCall (fun _ _ => 0) ⟨#[], #[Value.agg #[.string ⟨#[]⟩, .int .i64 0, .int .u64 0, .int .u64 0, .int .u32 0, .int .u64 0, .bool false], Value.agg #[.int .i64 0, .int .i64 0], .int .u8 0], []⟩).memory Tryd.f10.params.toList Rows.zipAnySpec.vars false #[Value.agg #[Value.string ⟨#[]⟩, Value.int .i64 0, .int .u64 0, .int .u64 0, .int .u32 0, .int .u64 0, .bool false], Value.agg #[.int .i64 0, .int .i64 0], .int .u8 0].toList 8 = some ([.agg [.lit (.string []), .lit (.int .i64 0), .lit (.int .u64 0), .lit (.int .u64 0), .lit (.int .u32 0), .lit (.int .u64 0), .lit (.bool false)], .agg [.lit (.int .i64 0), .lit (.int .i64 0)], .lit (.int .u8 0)], [], places) :=
  ⟨[], by kernel_rfl⟩

set_option maxRecDepth 100000 in
theorem zipAny_lifted (os : Os) (started : os.Started) (H : Type) (enc : TypeId × Value → H) (F : Stop.Interp) :
    ReturnsInHanded {} Tryd.checked os 10 .any ((OpenSpec.ofChange Rows.zipAnySpec).preRow enc Tryd.prog Tryd.f10 Rows.zipAnyRow.domain false Rows.zipAnyRow.laid) (((OpenSpec.ofChange Rows.zipAnySpec).at F).post enc Tryd.prog Tryd.f10 false true false false) := by
  obtain ⟨places, hx⟩ := zipAny_reads os enc
  refine returnsInHanded_of_row (C := Tryd.checked) (s := OpenSpec.ofChange Rows.zipAnySpec) Tryd.own started (by kernel_rfl) Tryd.func10
    (witness_row_at (enc := enc) (C := Tryd.checked) false (laidWorld os) #[Value.agg #[.string ⟨#[]⟩, .int .i64 0, .int .u64 0, .int .u64 0, .int .u32 0, .int .u64 0, .bool false], Value.agg #[.int .i64 0, .int .i64 0], .int .u8 0] rfl (by kernel_rfl) (by kernel_rfl) (by kernel_rfl)
      (OpenSpec.preRow_of_cond 8 hx (by kernel_rfl) (fun k hk => by cases hk) (by kernel_rfl) (zipAny_met os))) ?_
  intro W base args ds gs before hval hW _ _ _ hL _ _
  exact zipAny_contract H enc W base args ds gs before hval hW hL

theorem zipAny_said : Rows.ZipAnySaid :=
  OpenClaim.holds_of_cond 10 Tryd.f10 rfl rfl rfl rfl rfl rfl rfl ⟨rfl, rfl, rfl, rfl, rfl⟩ rfl rfl rfl rfl rfl (by kernel_rfl) Tryd.func10 (by kernel_rfl)
    (of_decide_eq_true (by kernel_rfl)) (by unfold Func.isWrapper; first | (rw [if_pos (by decide +kernel)]; kernel_rfl) | (rw [if_neg (by decide +kernel)]; exact ⟨rfl, rfl⟩))
    (fun os started H enc _ F => by rw [OpenClaim.pre_eq_preRow]; exact zipAny_lifted os started H enc F)

theorem zipAny_plain (f : FuncId) (fn : Func) (hf : Tryd.pinned.checked.prog.funcNamed "lighter/lighterlaw13.ZipAny" = some f) (hfn : Tryd.pinned.checked.prog.funcs[f]? = some fn) :
    false = Tryd.pinned.checked.prog.looks [] ∧ ∀ (j : Nat) t, fn.params[j]? = some t → Tryd.pinned.checked.prog.wantsStandIn t = false := by
  obtain rfl : f = 10 := Option.some.inj ((show Tryd.prog.funcNamed "lighter/lighterlaw13.ZipAny" = some 10 by kernel_rfl).symm.trans hf) |>.symm
  obtain rfl : fn = Tryd.f10 := (Option.some.inj (Tryd.func10.symm.trans hfn)).symm
  refine ⟨by kernel_rfl, fun j t ht => ?_⟩
  rw [Tryd.params10] at ht
  have hmem := Array.mem_of_getElem? ht
  simp at hmem
  rcases hmem with rfl | rfl | rfl
  · exact (show Tryd.prog.wantsStandIn 44 = false by kernel_rfl)
  · exact (show Tryd.prog.wantsStandIn 59 = false by kernel_rfl)
  · exact (show Tryd.prog.wantsStandIn 5 = false by kernel_rfl)

theorem zipAny_holds : Rows.ZipAnyCardSaid :=
  Claim7.holds_tied_plain_at .later [] _ _ _ _ zipAny_said (fun _ h => by cases h) (by kernel_rfl) (fun _ h => by cases h) zipAny_row_tie rfl ⟨rfl, rfl⟩ (by kernel_rfl) rfl zipAny_plain (by kernel_rfl)

end Go.Proofs.YtdohhmaggeocjaaDoor
