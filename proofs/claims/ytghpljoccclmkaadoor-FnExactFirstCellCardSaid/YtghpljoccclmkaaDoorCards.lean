/-
  DERIVED. GIVEN WITH THE SEED: THE CARDS: each row of YtghpljoccclmkaaDoorRows.lean that lists a variable, with what it lists TIED to the program's text (the seventh form; the later family's looks); each row that meets fmt, with fmt's text TOLD by the authors' own Lean function (tested against real Go, not proved from fmt's source: count such statements apart). THE CARD IS WHAT COUNTS. Prove the row's statement (the work); the ties are given (YtghpljoccclmkaaDoorTie.lean); close each card by the builder's one call (the guide's Derived/Test/ToyasCard.lean, 'card_holds'). Laid BY PROGRAM, IN A SANDBOX (cutbox-door.mjs). By AI agents, Wed Nov 11 2026. No macro, syntax, notation, axiom, sorry.
-/
import Derived.Test.YtghpljoccclmkaaDoorRows
import GoSem.ClaimSeven
namespace Go.Proofs.YtghpljoccclmkaaDoor
namespace Rows

/-- THE TIED CARD OF 'laws.FnExactCellsOfMask'. -/
def fnExactCellsOfMaskCard : Claim7 := { stood := { row := fnExactCellsOfMaskRow, standIns := [], harness := (true, "ab20a49089997417767f1c1554774e194e6a0884b9c28ef9b30c121d1d7e9946"), looks := false }, kinds := [], alts := [], laidByText := true, laidKinds := [.data, .data], laidTests := true, laidLooks := .later }
def FnExactCellsOfMaskCardSaid : Prop := Claim7.holds Tryd.pinned (.plain (OpenSpec.ofChange fnExactCellsOfMaskSpec)) fnExactCellsOfMaskCard

/-- THE TIED CARD OF 'laws.FnExactFirstCell'. -/
def fnExactFirstCellCard : Claim7 := { stood := { row := fnExactFirstCellRow, standIns := [], harness := (true, "ab20a49089997417767f1c1554774e194e6a0884b9c28ef9b30c121d1d7e9946"), looks := false }, kinds := [], alts := [], laidByText := true, laidKinds := [.data, .data], laidTests := true, laidLooks := .later }
def FnExactFirstCellCardSaid : Prop := Claim7.holds Tryd.pinned (.plain (OpenSpec.ofChange fnExactFirstCellSpec)) fnExactFirstCellCard

/-- THE SECOND FORM's CARD OF 'laws.FnExactCellsOfMask'. -/
def fnExactCellsOfMaskUptoCard : Claim7 := { stood := { row := fnExactCellsOfMaskUptoRow, standIns := [], harness := (true, "ab20a49089997417767f1c1554774e194e6a0884b9c28ef9b30c121d1d7e9946"), looks := false }, kinds := [], alts := [], laidByText := true, laidKinds := [.data, .data], laidTests := true, laidLooks := .later }
def FnExactCellsOfMaskUptoCardSaid : Prop := Claim7.holds Tryd.pinned (.plain (OpenSpec.upto fnExactCellsOfMaskSpec)) fnExactCellsOfMaskUptoCard

/-- THE SECOND FORM's CARD OF 'laws.FnExactFirstCell'. -/
def fnExactFirstCellUptoCard : Claim7 := { stood := { row := fnExactFirstCellUptoRow, standIns := [], harness := (true, "ab20a49089997417767f1c1554774e194e6a0884b9c28ef9b30c121d1d7e9946"), looks := false }, kinds := [], alts := [], laidByText := true, laidKinds := [.data, .data], laidTests := true, laidLooks := .later }
def FnExactFirstCellUptoCardSaid : Prop := Claim7.holds Tryd.pinned (.plain (OpenSpec.upto fnExactFirstCellSpec)) fnExactFirstCellUptoCard
end Rows
end Go.Proofs.YtghpljoccclmkaaDoor
