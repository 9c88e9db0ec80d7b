/-
  DERIVED. GIVEN WITH THE SEED: THE CARDS: each row of YtoaeffinjpkahaaDoorRows.lean that lists a variable, with what it lists TIED to the program's text (the seventh form; the later family's looks); each row that meets fmt, with fmt's text TOLD by the authors' own Lean function (tested against real Go, not proved from fmt's source: count such statements apart). THE CARD IS WHAT COUNTS. Prove the row's statement (the work); the ties are given (YtoaeffinjpkahaaDoorTie.lean); close each card by the builder's one call (the guide's Derived/Test/ToyasCard.lean, 'card_holds'). Laid BY PROGRAM, IN A SANDBOX (cutbox-door.mjs). By AI agents, Wed Nov 11 2026. No macro, syntax, notation, axiom, sorry.
-/
import Derived.Test.YtoaeffinjpkahaaDoorRows
import GoSem.ClaimSeven
namespace Go.Proofs.YtoaeffinjpkahaaDoor
namespace Rows

/-- THE TIED CARD OF 'lighterlaw07.InflateCopies'. -/
def inflateCopiesCard : Claim7 := { stood := { row := inflateCopiesRow, standIns := [], harness := (true, "9024974b0e67a0caa9ab495efd892ab49082f341fc6c0a8613291cf400f5359f"), looks := false }, kinds := [], alts := [], laidByText := true, laidKinds := [.data, .data], laidTests := true, laidLooks := .later }
def InflateCopiesCardSaid : Prop := Claim7.holds Tryd.pinned (.plain (OpenSpec.ofChange inflateCopiesSpec)) inflateCopiesCard

/-- THE TIED CARD OF 'lighterlaw08.MatchFewest'. -/
def matchFewestCard : Claim7 := { stood := { row := matchFewestRow, standIns := [], harness := (true, "9024974b0e67a0caa9ab495efd892ab49082f341fc6c0a8613291cf400f5359f"), looks := false }, kinds := [], alts := [], laidByText := true, laidKinds := [.data], laidTests := true, laidLooks := .later }
def MatchFewestCardSaid : Prop := Claim7.holds Tryd.pinned (.plain (OpenSpec.ofChange matchFewestSpec)) matchFewestCard

/-- THE TIED CARD OF 'lighterlaw09.BlockPacks'. -/
def blockPacksCard : Claim7 := { stood := { row := blockPacksRow, standIns := [], harness := (true, "9024974b0e67a0caa9ab495efd892ab49082f341fc6c0a8613291cf400f5359f"), looks := false }, kinds := [], alts := [], laidByText := true, laidKinds := [.data], laidTests := true, laidLooks := .later }
def BlockPacksCardSaid : Prop := Claim7.holds Tryd.pinned (.plain (OpenSpec.ofChange blockPacksSpec)) blockPacksCard

/-- THE TIED CARD OF 'lighterlaw09.BlockRefuses'. -/
def blockRefusesCard : Claim7 := { stood := { row := blockRefusesRow, standIns := [], harness := (true, "9024974b0e67a0caa9ab495efd892ab49082f341fc6c0a8613291cf400f5359f"), looks := false }, kinds := [], alts := [], laidByText := true, laidKinds := [.data], laidTests := true, laidLooks := .later }
def BlockRefusesCardSaid : Prop := Claim7.holds Tryd.pinned (.plain (OpenSpec.ofChange blockRefusesSpec)) blockRefusesCard

/-- THE SECOND FORM's CARD OF 'lighterlaw07.InflateCopies'. -/
def inflateCopiesUptoCard : Claim7 := { stood := { row := inflateCopiesUptoRow, standIns := [], harness := (true, "9024974b0e67a0caa9ab495efd892ab49082f341fc6c0a8613291cf400f5359f"), looks := false }, kinds := [], alts := [], laidByText := true, laidKinds := [.data, .data], laidTests := true, laidLooks := .later }
def InflateCopiesUptoCardSaid : Prop := Claim7.holds Tryd.pinned (.plain (OpenSpec.upto inflateCopiesSpec)) inflateCopiesUptoCard

/-- THE SECOND FORM's CARD OF 'lighterlaw08.MatchFewest'. -/
def matchFewestUptoCard : Claim7 := { stood := { row := matchFewestUptoRow, standIns := [], harness := (true, "9024974b0e67a0caa9ab495efd892ab49082f341fc6c0a8613291cf400f5359f"), looks := false }, kinds := [], alts := [], laidByText := true, laidKinds := [.data], laidTests := true, laidLooks := .later }
def MatchFewestUptoCardSaid : Prop := Claim7.holds Tryd.pinned (.plain (OpenSpec.upto matchFewestSpec)) matchFewestUptoCard

/-- THE SECOND FORM's CARD OF 'lighterlaw09.BlockPacks'. -/
def blockPacksUptoCard : Claim7 := { stood := { row := blockPacksUptoRow, standIns := [], harness := (true, "9024974b0e67a0caa9ab495efd892ab49082f341fc6c0a8613291cf400f5359f"), looks := false }, kinds := [], alts := [], laidByText := true, laidKinds := [.data], laidTests := true, laidLooks := .later }
def BlockPacksUptoCardSaid : Prop := Claim7.holds Tryd.pinned (.plain (OpenSpec.upto blockPacksSpec)) blockPacksUptoCard

/-- THE SECOND FORM's CARD OF 'lighterlaw09.BlockRefuses'. -/
def blockRefusesUptoCard : Claim7 := { stood := { row := blockRefusesUptoRow, standIns := [], harness := (true, "9024974b0e67a0caa9ab495efd892ab49082f341fc6c0a8613291cf400f5359f"), looks := false }, kinds := [], alts := [], laidByText := true, laidKinds := [.data], laidTests := true, laidLooks := .later }
def BlockRefusesUptoCardSaid : Prop := Claim7.holds Tryd.pinned (.plain (OpenSpec.upto blockRefusesSpec)) blockRefusesUptoCard
end Rows
end Go.Proofs.YtoaeffinjpkahaaDoor
