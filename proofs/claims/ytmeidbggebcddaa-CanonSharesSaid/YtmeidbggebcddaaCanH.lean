/- Contract of the statements' first lines of layer 3 over the translated program: a code of four words. -/
import Derived.Test.YtmeidbggebcddaaCanG
import Derived.Test.YtmeidbggebcddaaCanF1
namespace Go.Proofs.Ytmeidbggebcddaa
open Go Go.RowKit
set_option maxRecDepth 100000

theorem Block.reads {w : World} {b : Nat} {t : TypeId} {xs : List Value} (h : Block w b t xs) (hn : xs.length ≤ maxLen) : Reads w (.slice (some ⟨b, 0, none⟩) xs.length xs.length) xs :=
  ⟨_, xs.length, rfl, Nat.le_refl _, hn, .inr ⟨b, 0, rfl, fun j u hu => by rw [Nat.zero_add, h.cell j]; exact hu⟩⟩

set_option maxHeartbeats 400000 in
theorem speaks3_calls (w : World) : Calls Try.prog 11 #[] w fun e w' => e = .returned (.bool true) ∧ Touch (fun _ => False) w w' := by
  have hB := Lib.hid (Block.new w 3 (intVs [2, 1, 3, 3]))
  have hnew := Lib.hid (new_full [2, 1, 3, 3] false _ _ (hB.out.reads (by unfold maxLen; decide)) (by decide) (by decide) (by decide))
  clear hB
  go_enter Try.func11, Try.ntmps11
  go_wp2_with fail
  refine hnew.out.mono ?_
  rintro e w1 ⟨b, rfl, hC, hT⟩
  have hword := Lib.hid (word_in b _ _ _ 2 w1 hC (by decide))
  have HT := Lib.hid (((Touch.refl (fun _ => False) w).alloc _).trans hT)
  clear hC hT hnew
  go_wp2_with fail
  refine hword.out.mono ?_
  rintro e w2 ⟨rfl, q, rfl⟩
  rw [show wordN [2, 1, 3, 3] 2 = 3 by decide, show ([2, 1, 3, 3] : List Nat).getD 2 0 = 3 by decide]
  clear hword
  go_wp2_with fail
  go_ret
  exact ⟨rfl, HT.out.drewN q⟩
end Go.Proofs.Ytmeidbggebcddaa
