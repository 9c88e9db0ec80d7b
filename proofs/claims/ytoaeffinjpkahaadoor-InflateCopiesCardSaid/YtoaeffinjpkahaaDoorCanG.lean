
/- Contracts of package canon over the translated program: words and lengths of a code. -/
import Derived.Test.YtoaeffinjpkahaaDoorCanF4
namespace Go.Proofs.YtoaeffinjpkahaaDoor
set_option linter.unusedSimpArgs false
set_option linter.unusedVariables false
open Go Go.RowKit
set_option maxRecDepth 100000

theorem wordsL_length (ls : List Nat) : (wordsL ls).length = ls.length := by simp [wordsL]
theorem wordsL_get (ls : List Nat) (s : Nat) (hs : s < ls.length) : (wordsL ls)[s]? = some (wordN ls s) := by
  unfold wordsL
  rw [List.getElem?_map, List.getElem?_range hs]
  rfl

end Go.Proofs.YtoaeffinjpkahaaDoor
