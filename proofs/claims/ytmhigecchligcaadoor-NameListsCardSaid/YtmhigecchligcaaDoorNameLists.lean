/- Proves: whatever texts there are, the statement NameLists of layer 12 returns true and leaves its arguments as they were; the tables of package unicode/utf8 are tied to the program's text. -/
import Derived.Test.YtmhigecchligcaaDoorRows
import Derived.Test.YtmhigecchligcaaDoorCards
import Derived.Test.YtmhigecchligcaaDoorTie
import Derived.Test.YtmhigecchligcaaDoorLaw
import Derived.Test.YtmhigecchligcaaDoorBase
import Derived.Test.YtmhigecchligcaaDoorNamBase
import Derived.Test.YtmhigecchligcaaDoorWlOpen
import Derived.Test.YtmhigecchligcaaDoorNamLiWalk
namespace Go.Proofs.YtmhigecchligcaaDoor
open Go.ChangeShapes Go.WideShapes Go.ChangeAt Go.RowKit
open Go.ChangeMaps (open_string shut_string)

set_option maxRecDepth 100000 in
theorem nameLists_contract (H : Type) (enc : TypeId × Value → H) (W : World) (base : Nat) (args : Array Value) (ds gs : List (DataW H)) (before : List MemPlace)
    (hval : ∀ (j : Nat) t v, Tryd.f4.params[j]? = some t → args[j]? = some v → Value.okWide Tryd.prog W .any base t v)
    (hW : DataW.Whole enc Tryd.prog Tryd.f4.params.toList Rows.nameListsSpec.vars false W args.toList ds gs before) (hL : laidMetH Tryd.prog Rows.nameListsRow.laid W) :
    Calls Tryd.prog 4 args W fun e W' => ∃ v, e = .returned v ∧ Rows.nameListsSpec.post enc Tryd.prog Tryd.f4 false true false false W args v W' := by
  have hW' := hW
  obtain ⟨p, q, hA0, hV, rfl, hfz, hnd⟩ := hW
  have hA : DataW.TrodAll enc Tryd.prog W 0 (fun _ => true) true Tryd.f4.params.toList args.toList ds p := hA0
  rw [Tryd.params4] at hA hval
  obtain ⟨v0, d0, rfl, rfl, h0⟩ := trodAll_one hA
  obtain ⟨rfl, rfl⟩ := trodVars_none hV
  obtain ⟨l0, hr0, hsz0⟩ := open_texts Tryd.underlying27 Tryd.underlying9 Tryd.cellsStrPl (hval 0 27 v0 rfl rfl) h0
  refine (lists_calls l0 v0 W hr0 hsz0 (tabs_at hL)).mono fun e W' ⟨he, ht⟩ => ?_
  subst he
  exact ⟨_, rfl, law_post (P := Tryd.prog) (tb := 4) Tryd.laidOut (by rw [Tryd.params4]; decide +kernel) rfl hW' rfl rfl rfl rfl Tryd.underlying4 (ht.below (Nat.le_refl _) (fun _ h => h.elim))⟩

theorem nameLists_met (os : Os) : laidMet Tryd.prog Rows.nameListsRow.laid ((laidWorld os).forCall (fun _ _ => 0) ⟨#[], #[.slice none 0 0], []⟩).memory :=
  laidMet_of_run' 8 (by kernel_rfl) (by kernel_rfl)
theorem nameLists_reads (os : Os) {H : Type} (enc : TypeId × Value → H) : ∃ places, DataW.whole enc Tryd.prog ((laidWorld os).forCall (fun _ _ => 0) ⟨#[], #[.slice none 0 0], []⟩).memory Tryd.f4.params.toList Rows.nameListsSpec.vars false #[Value.slice none 0 0].toList 8 = some ([.nil], [], places) :=
  ⟨[], by kernel_rfl⟩

set_option maxRecDepth 100000 in
theorem nameLists_lifted (os : Os) (started : os.Started) (H : Type) (enc : TypeId × Value → H) (F : Stop.Interp) :
    ReturnsInHanded {} Tryd.checked os 4 .any ((OpenSpec.ofChange Rows.nameListsSpec).preRow enc Tryd.prog Tryd.f4 Rows.nameListsRow.domain false Rows.nameListsRow.laid) (((OpenSpec.ofChange Rows.nameListsSpec).at F).post enc Tryd.prog Tryd.f4 false true false false) := by
  obtain ⟨places, hx⟩ := nameLists_reads os enc
  refine returnsInHanded_of_row (C := Tryd.checked) (s := OpenSpec.ofChange Rows.nameListsSpec) Tryd.own started (by kernel_rfl) Tryd.func4
    (witness_row_at (enc := enc) (C := Tryd.checked) false (laidWorld os) #[.slice none 0 0] rfl (by kernel_rfl) (by kernel_rfl) (by kernel_rfl)
      (OpenSpec.preRow_of_cond 8 hx (by kernel_rfl) (fun k hk => by cases hk) (by kernel_rfl) (nameLists_met os))) ?_
  intro W base args ds gs before hval hW _ _ _ hL _ _
  exact nameLists_contract H enc W base args ds gs before hval hW hL

theorem nameLists_said : Rows.NameListsSaid :=
  OpenClaim.holds_of_cond 4 Tryd.f4 rfl rfl rfl rfl rfl rfl rfl ⟨rfl, rfl, rfl, rfl, rfl⟩ rfl rfl rfl rfl rfl (by kernel_rfl) Tryd.func4 (by kernel_rfl)
    (of_decide_eq_true (by kernel_rfl)) (by unfold Func.isWrapper; first | (rw [if_pos (by decide +kernel)]; kernel_rfl) | (rw [if_neg (by decide +kernel)]; exact ⟨rfl, rfl⟩))
    (fun os started H enc _ F => by rw [OpenClaim.pre_eq_preRow]; exact nameLists_lifted os started H enc F)

theorem nameLists_plain (f : FuncId) (fn : Func) (hf : Tryd.pinned.checked.prog.funcNamed "lighter/lighterlaw12.NameLists" = some f) (hfn : Tryd.pinned.checked.prog.funcs[f]? = some fn) :
    false = Tryd.pinned.checked.prog.looks [] ∧ ∀ (j : Nat) t, fn.params[j]? = some t → Tryd.pinned.checked.prog.wantsStandIn t = false := by
  obtain rfl : f = 4 := Option.some.inj ((show Tryd.prog.funcNamed "lighter/lighterlaw12.NameLists" = some 4 by kernel_rfl).symm.trans hf) |>.symm
  obtain rfl : fn = Tryd.f4 := (Option.some.inj (Tryd.func4.symm.trans hfn)).symm
  refine ⟨by kernel_rfl, fun j t ht => ?_⟩
  rw [Tryd.params4] at ht
  have hmem := Array.mem_of_getElem? ht
  simp at hmem
  subst hmem
  exact (show Tryd.prog.wantsStandIn 27 = false by kernel_rfl)

theorem nameLists_holds : Rows.NameListsCardSaid :=
  Claim7.holds_tied_plain_at .later [] _ _ _ _ nameLists_said (fun _ h => by cases h) (by kernel_rfl) (fun _ h => by cases h) nameLists_row_tie rfl ⟨rfl, rfl⟩ (by kernel_rfl) rfl nameLists_plain (by kernel_rfl)

end Go.Proofs.YtmhigecchligcaaDoor
