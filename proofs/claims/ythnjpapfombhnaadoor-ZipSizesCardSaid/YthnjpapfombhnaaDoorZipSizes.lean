/- Proves: whatever head there is, the statement ZipSizes of layer 13 returns true and leaves its arguments as they were; the tables of package unicode/utf8 are tied to the program's text. -/
import Derived.Test.YthnjpapfombhnaaDoorRows
import Derived.Test.YthnjpapfombhnaaDoorCards
import Derived.Test.YthnjpapfombhnaaDoorTie
import Derived.Test.YthnjpapfombhnaaDoorLaw
import Derived.Test.YthnjpapfombhnaaDoorBase
import Derived.Test.YthnjpapfombhnaaDoorNamBase
import Derived.Test.YthnjpapfombhnaaDoorZipOpen
import Derived.Test.YthnjpapfombhnaaDoorZipSizWalk
namespace Go.Proofs.YthnjpapfombhnaaDoor
open Go.ChangeShapes Go.WideShapes Go.ChangeAt Go.RowKit
open Go.ChangeMaps (open_string shut_string)

set_option maxRecDepth 100000 in
theorem zipSizes_contract (H : Type) (enc : TypeId × Value → H) (W : World) (base : Nat) (args : Array Value) (ds gs : List (DataW H)) (before : List MemPlace)
    (hval : ∀ (j : Nat) t v, Tryd.f11.params[j]? = some t → args[j]? = some v → Value.okWide Tryd.prog W .any base t v)
    (hW : DataW.Whole enc Tryd.prog Tryd.f11.params.toList Rows.zipSizesSpec.vars false W args.toList ds gs before) (hL : laidMetH Tryd.prog Rows.zipSizesRow.laid W) :
    Calls Tryd.prog 11 args W fun e W' => ∃ v, e = .returned v ∧ Rows.zipSizesSpec.post enc Tryd.prog Tryd.f11 false true false false W args v W' := by
  have hW' := hW
  obtain ⟨p, q, hA0, hV, rfl, hfz, hnd⟩ := hW
  have hA : DataW.TrodAll enc Tryd.prog W 0 (fun _ => true) true Tryd.f11.params.toList args.toList ds p := hA0
  rw [Tryd.params11] at hA hval
  obtain ⟨v0, d0, rfl, rfl, h0⟩ := trodAll_one hA
  obtain ⟨rfl, rfl⟩ := trodVars_none hV
  obtain ⟨n0, tm0, q0, z0, s0, a0, k0, rfl, g0, g1, g2, g3, g4, g5⟩ := open_head (hval 0 44 v0 rfl rfl) h0
  refine (sizes_calls n0 tm0 q0 z0 s0 a0 k0 g0 g1 g2 g3 g4 g5 W (tabs_at hL)).mono fun e W' ⟨he, ht⟩ => ?_
  subst he
  exact ⟨_, rfl, law_post (P := Tryd.prog) (tb := 4) Tryd.laidOut (by rw [Tryd.params11]; decide +kernel) rfl hW' rfl rfl rfl rfl Tryd.underlying4 (ht.below (Nat.le_refl _) (fun _ h => h.elim))⟩

theorem zipSizes_met (os : Os) : laidMet Tryd.prog Rows.zipSizesRow.laid ((laidWorld os).forCall (fun _ _ => 0) ⟨#[], #[Value.agg #[.string ⟨#[]⟩, .int .i64 0, .int .u64 0, .int .u64 0, .int .u32 0, .int .u64 0, .bool false]], []⟩).memory :=
  laidMet_of_run' 8 (by kernel_rfl) (by kernel_rfl)
theorem zipSizes_reads (os : Os) {H : Type} (enc : TypeId × Value → H) : ∃ places, DataW.whole enc Tryd.prog ((laidWorld os).forCall (fun _ _ => 0) ⟨#[], #[Value.agg #[.string ⟨#[]⟩, .int .i64 0, .int .u64 0, .int .u64 0, .int .u32 0, .int .u64 0, .bool false]], []⟩).memory Tryd.f11.params.toList Rows.zipSizesSpec.vars false #[Value.agg #[Value.string ⟨#[]⟩, Value.int .i64 0, .int .u64 0, .int .u64 0, .int .u32 0, .int .u64 0, .bool false]].toList 8 = some ([.agg [.lit (.string []), .lit (.int .i64 0), .lit (.int .u64 0), .lit (.int .u64 0), .lit (.int .u32 0), .lit (.int .u64 0), .lit (.bool false)]], [], places) :=
  ⟨[], by kernel_rfl⟩

set_option maxRecDepth 100000 in
theorem zipSizes_lifted (os : Os) (started : os.Started) (H : Type) (enc : TypeId × Value → H) (F : Stop.Interp) :
    ReturnsInHanded {} Tryd.checked os 11 .any ((OpenSpec.ofChange Rows.zipSizesSpec).preRow enc Tryd.prog Tryd.f11 Rows.zipSizesRow.domain false Rows.zipSizesRow.laid) (((OpenSpec.ofChange Rows.zipSizesSpec).at F).post enc Tryd.prog Tryd.f11 false true false false) := by
  obtain ⟨places, hx⟩ := zipSizes_reads os enc
  refine returnsInHanded_of_row (C := Tryd.checked) (s := OpenSpec.ofChange Rows.zipSizesSpec) Tryd.own started (by kernel_rfl) Tryd.func11
    (witness_row_at (enc := enc) (C := Tryd.checked) false (laidWorld os) #[Value.agg #[.string ⟨#[]⟩, .int .i64 0, .int .u64 0, .int .u64 0, .int .u32 0, .int .u64 0, .bool false]] rfl (by kernel_rfl) (by kernel_rfl) (by kernel_rfl)
      (OpenSpec.preRow_of_cond 8 hx (by kernel_rfl) (fun k hk => by cases hk) (by kernel_rfl) (zipSizes_met os))) ?_
  intro W base args ds gs before hval hW _ _ _ hL _ _
  exact zipSizes_contract H enc W base args ds gs before hval hW hL

theorem zipSizes_said : Rows.ZipSizesSaid :=
  OpenClaim.holds_of_cond 11 Tryd.f11 rfl rfl rfl rfl rfl rfl rfl ⟨rfl, rfl, rfl, rfl, rfl⟩ rfl rfl rfl rfl rfl (by kernel_rfl) Tryd.func11 (by kernel_rfl)
    (of_decide_eq_true (by kernel_rfl)) (by unfold Func.isWrapper; first | (rw [if_pos (by decide +kernel)]; kernel_rfl) | (rw [if_neg (by decide +kernel)]; exact ⟨rfl, rfl⟩))
    (fun os started H enc _ F => by rw [OpenClaim.pre_eq_preRow]; exact zipSizes_lifted os started H enc F)

theorem zipSizes_plain (f : FuncId) (fn : Func) (hf : Tryd.pinned.checked.prog.funcNamed "lighter/lighterlaw13.ZipSizes" = some f) (hfn : Tryd.pinned.checked.prog.funcs[f]? = some fn) :
    false = Tryd.pinned.checked.prog.looks [] ∧ ∀ (j : Nat) t, fn.params[j]? = some t → Tryd.pinned.checked.prog.wantsStandIn t = false := by
  obtain rfl : f = 11 := Option.some.inj ((show Tryd.prog.funcNamed "lighter/lighterlaw13.ZipSizes" = some 11 by kernel_rfl).symm.trans hf) |>.symm
  obtain rfl : fn = Tryd.f11 := (Option.some.inj (Tryd.func11.symm.trans hfn)).symm
  refine ⟨by kernel_rfl, fun j t ht => ?_⟩
  rw [Tryd.params11] at ht
  have hmem := Array.mem_of_getElem? ht
  simp at hmem
  subst hmem
  exact (show Tryd.prog.wantsStandIn 44 = false by kernel_rfl)

theorem zipSizes_holds : Rows.ZipSizesCardSaid :=
  Claim7.holds_tied_plain_at .later [] _ _ _ _ zipSizes_said (fun _ h => by cases h) (by kernel_rfl) (fun _ h => by cases h) zipSizes_row_tie rfl ⟨rfl, rfl⟩ (by kernel_rfl) rfl zipSizes_plain (by kernel_rfl)

end Go.Proofs.YthnjpapfombhnaaDoor
