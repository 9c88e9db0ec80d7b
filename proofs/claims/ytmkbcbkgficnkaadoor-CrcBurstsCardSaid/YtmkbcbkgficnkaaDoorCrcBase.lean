/- What every proof over the check's table of powers wants: the row's list gives the table's cells; a world that holds it. -/
import Derived.Test.YtmkbcbkgficnkaaDoorBase
import Derived.Test.YtmkbcbkgficnkaaDoorCrcS
import Derived.Deep.DeepHandedRow
import Derived.Lib.LaidTab
import Derived.OpenShut
namespace Go.Proofs.YtmkbcbkgficnkaaDoor
open Go Go.ChangeShapes Go.WideShapes Go.ChangeAt Go.RowKit

theorem gTab : Tryd.prog.globalNamed "lighter/crc.powers" = some 0 := by kernel_rfl
theorem gTabType : (Tryd.prog.globals[0]?).map (·.type) = some 40 := by kernel_rfl
theorem cellsTab : Tryd.prog.cellsOf 40 = 32 := by kernel_rfl
theorem cellsU32 : Tryd.prog.cellsOf 25 = 1 := by kernel_rfl

/-- The powers as whole numbers. -/
def powI : List Int := [8388608, 32768, 3988292384, 2984685714, 2691310871, 3982654894, 2295415911, 3619421802, 3963911953, 2390663536, 1680310286, 1296546528, 167662735, 2206543119, 808857370, 2069535939, 838779241, 2683044394, 1821240772, 366380877, 1608415822, 3134787127, 776888047, 1319870996, 2829349568, 1117427358, 344797226, 3289097936, 3303156796, 1073741824, 536870912, 134217728]
theorem powI_eq : ∀ k, k < 32 → powI.getD k 0 = ((powL.getD k 0 : Nat) : Int) := by decide

theorem pow_table {W : World} (h : laidMetH Tryd.prog Rows.crcSumsRow.laid W) : Lib.TabIs Tryd.prog W "lighter/crc.powers" .u32 powI :=
  Lib.tabIs_of_head (rest := []) gTab gTabType Tryd.underlying40 Tryd.underlying25 cellsU32 cellsTab h
theorem pow_at {W : World} (h : laidMetH Tryd.prog Rows.crcSumsRow.laid W) : PowAt W := by
  intro k hk
  have h1 := (pow_table h).cell gTab k (show k < powI.length from hk)
  rw [h1, powI_eq k hk]

/-- A world that holds the table as its initialiser lays it. -/
noncomputable def laidWorld (os : Os) : World :=
  { World.holding Tryd.prog os ⟨#[], #[], []⟩ with heap := (World.holding Tryd.prog os ⟨#[], #[], []⟩).heap.modify 0 fun
      | .cells _ t frozen => .cells (powI.map (Value.int .u32)).toArray t frozen
      | o => o }

end Go.Proofs.YtmkbcbkgficnkaaDoor
