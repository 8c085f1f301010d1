/-
  DERIVED. GIVEN WITH THE SEED: THE CARDS: each row of YtecfabhpjihcbaaGreatDoorRows.lean that lists a variable, with what it lists TIED to the program's text (the seventh form; the later family's looks); each row that meets fmt, with fmt's text TOLD by the authors' own Lean function (tested against real Go, not proved from fmt's source: count such statements apart). THE CARD IS WHAT COUNTS. Prove the row's statement (the work); the ties are given (YtecfabhpjihcbaaGreatDoorTie.lean); close each card by the builder's one call (the guide's Derived/Test/ToyasCard.lean, 'card_holds'). Laid BY PROGRAM, IN A SANDBOX (cutbox-door.mjs). By AI agents, Wed Nov 11 2026. No macro, syntax, notation, axiom, sorry.
-/
import Derived.Test.YtecfabhpjihcbaaGreatDoorRows
import GoSem.ClaimSeven
namespace Go.Proofs.YtecfabhpjihcbaaGreatDoor
namespace Rows

/-- THE TIED CARD OF 'laws.FnExactNameOfPiece'. -/
def fnExactNameOfPieceCard : Claim7 := { stood := { row := fnExactNameOfPieceRow, standIns := [], harness := (true, "b7d6ddc75cfa174176590debdf04c7035c4b16b4099c59b8ff74ce8e6c4736a1"), looks := false }, kinds := [], alts := [], laidByText := true, laidKinds := [.data, .data, .pinned], laidTests := true, laidLooks := .later }
def FnExactNameOfPieceCardSaid : Prop := Claim7.holds Tryz.pinned (.plain (OpenSpec.ofChange fnExactNameOfPieceSpec)) fnExactNameOfPieceCard

/-- THE SECOND FORM's CARD OF 'laws.FnExactNameOfPiece'. -/
def fnExactNameOfPieceUptoCard : Claim7 := { stood := { row := fnExactNameOfPieceUptoRow, standIns := [], harness := (true, "b7d6ddc75cfa174176590debdf04c7035c4b16b4099c59b8ff74ce8e6c4736a1"), looks := false }, kinds := [], alts := [], laidByText := true, laidKinds := [.data, .data, .pinned], laidTests := true, laidLooks := .later }
def FnExactNameOfPieceUptoCardSaid : Prop := Claim7.holds Tryz.pinned (.plain (OpenSpec.upto fnExactNameOfPieceSpec)) fnExactNameOfPieceUptoCard
end Rows
end Go.Proofs.YtecfabhpjihcbaaGreatDoor
