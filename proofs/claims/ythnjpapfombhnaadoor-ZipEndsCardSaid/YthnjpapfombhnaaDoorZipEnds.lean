/- Proves: whatever numbers there are, the statement ZipEnds of layer 13 returns true and leaves its arguments as they were; the tables of package unicode/utf8 are tied to the program's text. -/
import Derived.Test.YthnjpapfombhnaaDoorRows
import Derived.Test.YthnjpapfombhnaaDoorCards
import Derived.Test.YthnjpapfombhnaaDoorTie
import Derived.Test.YthnjpapfombhnaaDoorLaw
import Derived.Test.YthnjpapfombhnaaDoorBase
import Derived.Test.YthnjpapfombhnaaDoorNamBase
import Derived.Test.YthnjpapfombhnaaDoorZipEndsWalk
namespace Go.Proofs.YthnjpapfombhnaaDoor
open Go.ChangeShapes Go.WideShapes Go.ChangeAt Go.RowKit
open Go.ChangeMaps (open_string shut_string)

set_option maxRecDepth 100000 in
theorem zipEnds_contract (H : Type) (enc : TypeId × Value → H) (W : World) (base : Nat) (args : Array Value) (ds gs : List (DataW H)) (before : List MemPlace)
    (hval : ∀ (j : Nat) t v, Tryd.f8.params[j]? = some t → args[j]? = some v → Value.okWide Tryd.prog W .any base t v)
    (hW : DataW.Whole enc Tryd.prog Tryd.f8.params.toList Rows.zipEndsSpec.vars false W args.toList ds gs before) (hL : laidMetH Tryd.prog Rows.zipEndsRow.laid W) :
    Calls Tryd.prog 8 args W fun e W' => ∃ v, e = .returned v ∧ Rows.zipEndsSpec.post enc Tryd.prog Tryd.f8 false true false false W args v W' := by
  have hW' := hW
  obtain ⟨p, q, hA0, hV, rfl, hfz, hnd⟩ := hW
  have hA : DataW.TrodAll enc Tryd.prog W 0 (fun _ => true) true Tryd.f8.params.toList args.toList ds p := hA0
  rw [Tryd.params8] at hA hval
  obtain ⟨v0, v1, v2, d0, d1, d2, p0, p1, p2, rfl, rfl, rfl, h0, h1, h2⟩ := trodAll_three hA
  obtain ⟨rfl, rfl⟩ := trodVars_none hV
  obtain ⟨z0, rfl, rfl, rfl, wz0⟩ := open_int Tryd.underlying39 (hval 0 39 v0 rfl rfl) h0
  obtain ⟨m0, rfl, hm0⟩ := wf_u64 wz0
  obtain ⟨z1, rfl, rfl, rfl, wz1⟩ := open_int Tryd.underlying39 (hval 1 39 v1 rfl rfl) h1
  obtain ⟨m1, rfl, hm1⟩ := wf_u64 wz1
  obtain ⟨z2, rfl, rfl, rfl, wz2⟩ := open_int Tryd.underlying39 (hval 2 39 v2 rfl rfl) h2
  obtain ⟨m2, rfl, hm2⟩ := wf_u64 wz2
  refine (zends_calls m0 m1 m2 W (tabs_at hL)).mono fun e W' ⟨he, ht⟩ => ?_
  subst he
  exact ⟨_, rfl, law_post (P := Tryd.prog) (tb := 4) Tryd.laidOut (by rw [Tryd.params8]; decide +kernel) rfl hW' rfl rfl rfl rfl Tryd.underlying4 (ht.below (Nat.le_refl _) (fun _ h => h.elim))⟩

theorem zipEnds_met (os : Os) : laidMet Tryd.prog Rows.zipEndsRow.laid ((laidWorld os).forCall (fun _ _ => 0) ⟨#[], #[.int .u64 0, .int .u64 0, .int .u64 0], []⟩).memory :=
  laidMet_of_run' 8 (by kernel_rfl) (by kernel_rfl)
theorem zipEnds_reads (os : Os) {H : Type} (enc : TypeId × Value → H) : ∃ places, DataW.whole enc Tryd.prog ((laidWorld os).forCall (fun _ _ => 0) ⟨#[], #[.int .u64 0, .int .u64 0, .int .u64 0], []⟩).memory Tryd.f8.params.toList Rows.zipEndsSpec.vars false #[Value.int .u64 0, .int .u64 0, .int .u64 0].toList 8 = some ([.lit (.int .u64 0), .lit (.int .u64 0), .lit (.int .u64 0)], [], places) :=
  ⟨[], by kernel_rfl⟩

set_option maxRecDepth 100000 in
theorem zipEnds_lifted (os : Os) (started : os.Started) (H : Type) (enc : TypeId × Value → H) (F : Stop.Interp) :
    ReturnsInHanded {} Tryd.checked os 8 .any ((OpenSpec.ofChange Rows.zipEndsSpec).preRow enc Tryd.prog Tryd.f8 Rows.zipEndsRow.domain false Rows.zipEndsRow.laid) (((OpenSpec.ofChange Rows.zipEndsSpec).at F).post enc Tryd.prog Tryd.f8 false true false false) := by
  obtain ⟨places, hx⟩ := zipEnds_reads os enc
  refine returnsInHanded_of_row (C := Tryd.checked) (s := OpenSpec.ofChange Rows.zipEndsSpec) Tryd.own started (by kernel_rfl) Tryd.func8
    (witness_row_at (enc := enc) (C := Tryd.checked) false (laidWorld os) #[.int .u64 0, .int .u64 0, .int .u64 0] rfl (by kernel_rfl) (by kernel_rfl) (by kernel_rfl)
      (OpenSpec.preRow_of_cond 8 hx (by kernel_rfl) (fun k hk => by cases hk) (by kernel_rfl) (zipEnds_met os))) ?_
  intro W base args ds gs before hval hW _ _ _ hL _ _
  exact zipEnds_contract H enc W base args ds gs before hval hW hL

theorem zipEnds_said : Rows.ZipEndsSaid :=
  OpenClaim.holds_of_cond 8 Tryd.f8 rfl rfl rfl rfl rfl rfl rfl ⟨rfl, rfl, rfl, rfl, rfl⟩ rfl rfl rfl rfl rfl (by kernel_rfl) Tryd.func8 (by kernel_rfl)
    (of_decide_eq_true (by kernel_rfl)) (by unfold Func.isWrapper; first | (rw [if_pos (by decide +kernel)]; kernel_rfl) | (rw [if_neg (by decide +kernel)]; exact ⟨rfl, rfl⟩))
    (fun os started H enc _ F => by rw [OpenClaim.pre_eq_preRow]; exact zipEnds_lifted os started H enc F)

theorem zipEnds_plain (f : FuncId) (fn : Func) (hf : Tryd.pinned.checked.prog.funcNamed "lighter/lighterlaw13.ZipEnds" = some f) (hfn : Tryd.pinned.checked.prog.funcs[f]? = some fn) :
    false = Tryd.pinned.checked.prog.looks [] ∧ ∀ (j : Nat) t, fn.params[j]? = some t → Tryd.pinned.checked.prog.wantsStandIn t = false := by
  obtain rfl : f = 8 := Option.some.inj ((show Tryd.prog.funcNamed "lighter/lighterlaw13.ZipEnds" = some 8 by kernel_rfl).symm.trans hf) |>.symm
  obtain rfl : fn = Tryd.f8 := (Option.some.inj (Tryd.func8.symm.trans hfn)).symm
  refine ⟨by kernel_rfl, fun j t ht => ?_⟩
  rw [Tryd.params8] at ht
  have hmem := Array.mem_of_getElem? ht
  simp at hmem
  subst hmem
  exact (show Tryd.prog.wantsStandIn 39 = false by kernel_rfl)

theorem zipEnds_holds : Rows.ZipEndsCardSaid :=
  Claim7.holds_tied_plain_at .later [] _ _ _ _ zipEnds_said (fun _ h => by cases h) (by kernel_rfl) (fun _ h => by cases h) zipEnds_row_tie rfl ⟨rfl, rfl⟩ (by kernel_rfl) rfl zipEnds_plain (by kernel_rfl)

end Go.Proofs.YthnjpapfombhnaaDoor
