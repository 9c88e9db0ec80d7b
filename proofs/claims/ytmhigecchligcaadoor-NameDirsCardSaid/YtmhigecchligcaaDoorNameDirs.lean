/- Proves: whatever texts there are, the statement NameDirs of layer 12 returns true and leaves its arguments as they were; the tables of package unicode/utf8 are tied to the program's text. -/
import Derived.Test.YtmhigecchligcaaDoorRows
import Derived.Test.YtmhigecchligcaaDoorCards
import Derived.Test.YtmhigecchligcaaDoorTie
import Derived.Test.YtmhigecchligcaaDoorLaw
import Derived.Test.YtmhigecchligcaaDoorBase
import Derived.Test.YtmhigecchligcaaDoorNamBase
import Derived.Test.YtmhigecchligcaaDoorWlOpen
import Derived.Test.YtmhigecchligcaaDoorNamDiWalk
namespace Go.Proofs.YtmhigecchligcaaDoor
open Go.ChangeShapes Go.WideShapes Go.ChangeAt Go.RowKit
open Go.ChangeMaps (open_string shut_string)

set_option maxRecDepth 100000 in
theorem nameDirs_contract (H : Type) (enc : TypeId × Value → H) (W : World) (base : Nat) (args : Array Value) (ds gs : List (DataW H)) (before : List MemPlace)
    (hval : ∀ (j : Nat) t v, Tryd.f7.params[j]? = some t → args[j]? = some v → Value.okWide Tryd.prog W .any base t v)
    (hW : DataW.Whole enc Tryd.prog Tryd.f7.params.toList Rows.nameDirsSpec.vars false W args.toList ds gs before) (hL : laidMetH Tryd.prog Rows.nameDirsRow.laid W) :
    Calls Tryd.prog 7 args W fun e W' => ∃ v, e = .returned v ∧ Rows.nameDirsSpec.post enc Tryd.prog Tryd.f7 false true false false W args v W' := by
  have hW' := hW
  obtain ⟨p, q, hA0, hV, rfl, hfz, hnd⟩ := hW
  have hA : DataW.TrodAll enc Tryd.prog W 0 (fun _ => true) true Tryd.f7.params.toList args.toList ds p := hA0
  rw [Tryd.params7] at hA hval
  obtain ⟨v0, d0, rfl, rfl, h0⟩ := trodAll_one hA
  obtain ⟨rfl, rfl⟩ := trodVars_none hV
  obtain ⟨l0, hr0, hsz0⟩ := open_texts Tryd.underlying27 Tryd.underlying9 Tryd.cellsStrPl (hval 0 27 v0 rfl rfl) h0
  refine (dirs_calls l0 v0 W hr0 hsz0 (tabs_at hL)).mono fun e W' ⟨he, ht⟩ => ?_
  subst he
  exact ⟨_, rfl, law_post (P := Tryd.prog) (tb := 4) Tryd.laidOut (by rw [Tryd.params7]; decide +kernel) rfl hW' rfl rfl rfl rfl Tryd.underlying4 (ht.below (Nat.le_refl _) (fun _ h => h.elim))⟩

theorem nameDirs_met (os : Os) : laidMet Tryd.prog Rows.nameDirsRow.laid ((laidWorld os).forCall (fun _ _ => 0) ⟨#[], #[.slice none 0 0], []⟩).memory :=
  laidMet_of_run' 8 (by kernel_rfl) (by kernel_rfl)
theorem nameDirs_reads (os : Os) {H : Type} (enc : TypeId × Value → H) : ∃ places, DataW.whole enc Tryd.prog ((laidWorld os).forCall (fun _ _ => 0) ⟨#[], #[.slice none 0 0], []⟩).memory Tryd.f7.params.toList Rows.nameDirsSpec.vars false #[Value.slice none 0 0].toList 8 = some ([.nil], [], places) :=
  ⟨[], by kernel_rfl⟩

set_option maxRecDepth 100000 in
theorem nameDirs_lifted (os : Os) (started : os.Started) (H : Type) (enc : TypeId × Value → H) (F : Stop.Interp) :
    ReturnsInHanded {} Tryd.checked os 7 .any ((OpenSpec.ofChange Rows.nameDirsSpec).preRow enc Tryd.prog Tryd.f7 Rows.nameDirsRow.domain false Rows.nameDirsRow.laid) (((OpenSpec.ofChange Rows.nameDirsSpec).at F).post enc Tryd.prog Tryd.f7 false true false false) := by
  obtain ⟨places, hx⟩ := nameDirs_reads os enc
  refine returnsInHanded_of_row (C := Tryd.checked) (s := OpenSpec.ofChange Rows.nameDirsSpec) Tryd.own started (by kernel_rfl) Tryd.func7
    (witness_row_at (enc := enc) (C := Tryd.checked) false (laidWorld os) #[.slice none 0 0] rfl (by kernel_rfl) (by kernel_rfl) (by kernel_rfl)
      (OpenSpec.preRow_of_cond 8 hx (by kernel_rfl) (fun k hk => by cases hk) (by kernel_rfl) (nameDirs_met os))) ?_
  intro W base args ds gs before hval hW _ _ _ hL _ _
  exact nameDirs_contract H enc W base args ds gs before hval hW hL

theorem nameDirs_said : Rows.NameDirsSaid :=
  OpenClaim.holds_of_cond 7 Tryd.f7 rfl rfl rfl rfl rfl rfl rfl ⟨rfl, rfl, rfl, rfl, rfl⟩ rfl rfl rfl rfl rfl (by kernel_rfl) Tryd.func7 (by kernel_rfl)
    (of_decide_eq_true (by kernel_rfl)) (by unfold Func.isWrapper; first | (rw [if_pos (by decide +kernel)]; kernel_rfl) | (rw [if_neg (by decide +kernel)]; exact ⟨rfl, rfl⟩))
    (fun os started H enc _ F => by rw [OpenClaim.pre_eq_preRow]; exact nameDirs_lifted os started H enc F)

theorem nameDirs_plain (f : FuncId) (fn : Func) (hf : Tryd.pinned.checked.prog.funcNamed "lighter/lighterlaw12.NameDirs" = some f) (hfn : Tryd.pinned.checked.prog.funcs[f]? = some fn) :
    false = Tryd.pinned.checked.prog.looks [] ∧ ∀ (j : Nat) t, fn.params[j]? = some t → Tryd.pinned.checked.prog.wantsStandIn t = false := by
  obtain rfl : f = 7 := Option.some.inj ((show Tryd.prog.funcNamed "lighter/lighterlaw12.NameDirs" = some 7 by kernel_rfl).symm.trans hf) |>.symm
  obtain rfl : fn = Tryd.f7 := (Option.some.inj (Tryd.func7.symm.trans hfn)).symm
  refine ⟨by kernel_rfl, fun j t ht => ?_⟩
  rw [Tryd.params7] at ht
  have hmem := Array.mem_of_getElem? ht
  simp at hmem
  subst hmem
  exact (show Tryd.prog.wantsStandIn 27 = false by kernel_rfl)

theorem nameDirs_holds : Rows.NameDirsCardSaid :=
  Claim7.holds_tied_plain_at .later [] _ _ _ _ nameDirs_said (fun _ h => by cases h) (by kernel_rfl) (fun _ h => by cases h) nameDirs_row_tie rfl ⟨rfl, rfl⟩ (by kernel_rfl) rfl nameDirs_plain (by kernel_rfl)

end Go.Proofs.YtmhigecchligcaaDoor
