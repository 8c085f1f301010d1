/-
  DERIVED. GIVEN WITH THE SEED: THE CARDS: each row of YtiopnldddgikiaaDoorRows.lean that lists a variable, with what it lists TIED to the program's text (the seventh form; the later family's looks); each row that meets fmt, with fmt's text TOLD by the authors' own Lean function (tested against real Go, not proved from fmt's source: count such statements apart). THE CARD IS WHAT COUNTS. Prove the row's statement (the work); the ties are given (YtiopnldddgikiaaDoorTie.lean); close each card by the builder's one call (the guide's Derived/Test/ToyasCard.lean, 'card_holds'). Laid BY PROGRAM, IN A SANDBOX (cutbox-door.mjs). By AI agents, Wed Nov 11 2026. No macro, syntax, notation, axiom, sorry.
-/
import Derived.Test.YtiopnldddgikiaaDoorRows
import GoSem.ClaimSeven
namespace Go.Proofs.YtiopnldddgikiaaDoor
namespace Rows

/-- THE TIED CARD OF 'laws.FnExactPieceNamed'. -/
def fnExactPieceNamedCard : Claim7 := { stood := { row := fnExactPieceNamedRow, standIns := [], harness := (true, "04e23dde632a0c9cca59b0247788b5b7bbfe80d2a985630309b8cc83f002d727"), looks := false }, kinds := [], alts := [], laidByText := true, laidKinds := [.data, .data, .pinned], laidTests := true, laidLooks := .later }
def FnExactPieceNamedCardSaid : Prop := Claim7.holds Tryd.pinned (.plain (OpenSpec.ofChange fnExactPieceNamedSpec)) fnExactPieceNamedCard

/-- THE SECOND FORM's CARD OF 'laws.FnExactPieceNamed'. -/
def fnExactPieceNamedUptoCard : Claim7 := { stood := { row := fnExactPieceNamedUptoRow, standIns := [], harness := (true, "04e23dde632a0c9cca59b0247788b5b7bbfe80d2a985630309b8cc83f002d727"), looks := false }, kinds := [], alts := [], laidByText := true, laidKinds := [.data, .data, .pinned], laidTests := true, laidLooks := .later }
def FnExactPieceNamedUptoCardSaid : Prop := Claim7.holds Tryd.pinned (.plain (OpenSpec.upto fnExactPieceNamedSpec)) fnExactPieceNamedUptoCard
end Rows
end Go.Proofs.YtiopnldddgikiaaDoor
