
/- Contract of the statements' first lines of layer 3 over the translated program: a code of four words. -/
import Derived.Test.YtoaeffinjpkahaaDoorCanG
import Derived.Test.YtoaeffinjpkahaaDoorCanF4
namespace Go.Proofs.YtoaeffinjpkahaaDoor
set_option linter.unusedSimpArgs false
set_option linter.unusedVariables false
open Go Go.RowKit
set_option maxRecDepth 100000

theorem Block.reads {w : World} {b : Nat} {t : TypeId} {xs : List Value} (h : Block w b t xs) (hn : xs.length ≤ maxLen) : Reads w (.slice (some ⟨b, 0, none⟩) xs.length xs.length) xs :=
  ⟨_, xs.length, rfl, Nat.le_refl _, hn, .inr ⟨b, 0, rfl, fun j u hu => by rw [Nat.zero_add, h.cell j]; exact hu⟩⟩

end Go.Proofs.YtoaeffinjpkahaaDoor
