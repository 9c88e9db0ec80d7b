/- What every card of layer 7 wants: a world that holds the tables of package inflate. -/
import Derived.Test.YtoaeffinjpkahaaDoorRows
import Derived.Test.YtoaeffinjpkahaaDoorBase
import Derived.Deep.DeepHandedRow
import Derived.Deep.DeepWitnessRowRef
namespace Go.Proofs.YtoaeffinjpkahaaDoor
set_option linter.unusedSimpArgs false
set_option linter.unusedVariables false
open Go Go.ChangeShapes Go.WideShapes Go.ChangeAt Go.RowKit
set_option maxRecDepth 1000000

/-- A world that holds the tables as their initialisers lay them. -/
noncomputable def laidWorld (os : Os) : World :=
  let w0 := World.holding Tryd.prog os ⟨#[], #[], []⟩
  let put (h : Array Obj) (g : Nat) (cs : Array Value) : Array Obj := h.modify g fun
    | .cells _ t frozen => .cells cs t frozen
    | o => o
  let h1 := put w0.heap 1 (([16, 17, 18, 0, 8, 7, 9, 6, 10, 5, 11, 4, 12, 3, 13, 2, 14, 1, 15] : List Int).map (Value.int .i64)).toArray
  let h2 := put h1 2 (([3, 2, 3, 3, 11, 7] : List Int).map (Value.int .i64)).toArray
  { w0 with heap := h2 }
end Go.Proofs.YtoaeffinjpkahaaDoor
