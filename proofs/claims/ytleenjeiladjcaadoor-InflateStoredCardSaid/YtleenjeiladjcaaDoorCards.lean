/-
  DERIVED. GIVEN WITH THE SEED: THE CARDS: each row of YtleenjeiladjcaaDoorRows.lean that lists a variable, with what it lists TIED to the program's text (the seventh form; the later family's looks); each row that meets fmt, with fmt's text TOLD by the authors' own Lean function (tested against real Go, not proved from fmt's source: count such statements apart). THE CARD IS WHAT COUNTS. Prove the row's statement (the work); the ties are given (YtleenjeiladjcaaDoorTie.lean); close each card by the builder's one call (the guide's Derived/Test/ToyasCard.lean, 'card_holds'). Laid BY PROGRAM, IN A SANDBOX (cutbox-door.mjs). By AI agents, Wed Nov 11 2026. No macro, syntax, notation, axiom, sorry.
-/
import Derived.Test.YtleenjeiladjcaaDoorRows
import GoSem.ClaimSeven
namespace Go.Proofs.YtleenjeiladjcaaDoor
namespace Rows

/-- THE TIED CARD OF 'lighterlaw07.InflateStored'. -/
def inflateStoredCard : Claim7 := { stood := { row := inflateStoredRow, standIns := [], harness := (true, "eda2c62d2543152b5abf173e48120c38d88b0f229d1aba64bec268b66b442148"), looks := false }, kinds := [], alts := [], laidByText := true, laidKinds := [.data, .data], laidTests := true, laidLooks := .later }
def InflateStoredCardSaid : Prop := Claim7.holds Tryd.pinned (.plain (OpenSpec.ofChange inflateStoredSpec)) inflateStoredCard

/-- THE TIED CARD OF 'lighterlaw07.InflateCopies'. -/
def inflateCopiesCard : Claim7 := { stood := { row := inflateCopiesRow, standIns := [], harness := (true, "eda2c62d2543152b5abf173e48120c38d88b0f229d1aba64bec268b66b442148"), looks := false }, kinds := [], alts := [], laidByText := true, laidKinds := [.data, .data], laidTests := true, laidLooks := .later }
def InflateCopiesCardSaid : Prop := Claim7.holds Tryd.pinned (.plain (OpenSpec.ofChange inflateCopiesSpec)) inflateCopiesCard

/-- THE SECOND FORM's CARD OF 'lighterlaw07.InflateStored'. -/
def inflateStoredUptoCard : Claim7 := { stood := { row := inflateStoredUptoRow, standIns := [], harness := (true, "eda2c62d2543152b5abf173e48120c38d88b0f229d1aba64bec268b66b442148"), looks := false }, kinds := [], alts := [], laidByText := true, laidKinds := [.data, .data], laidTests := true, laidLooks := .later }
def InflateStoredUptoCardSaid : Prop := Claim7.holds Tryd.pinned (.plain (OpenSpec.upto inflateStoredSpec)) inflateStoredUptoCard

/-- THE SECOND FORM's CARD OF 'lighterlaw07.InflateCopies'. -/
def inflateCopiesUptoCard : Claim7 := { stood := { row := inflateCopiesUptoRow, standIns := [], harness := (true, "eda2c62d2543152b5abf173e48120c38d88b0f229d1aba64bec268b66b442148"), looks := false }, kinds := [], alts := [], laidByText := true, laidKinds := [.data, .data], laidTests := true, laidLooks := .later }
def InflateCopiesUptoCardSaid : Prop := Claim7.holds Tryd.pinned (.plain (OpenSpec.upto inflateCopiesSpec)) inflateCopiesUptoCard
end Rows
end Go.Proofs.YtleenjeiladjcaaDoor
