/-
  DERIVED. GIVEN WITH THE SEED: THE CARDS: each row of YtkcclhnligajeaaDoorRows.lean that lists a variable, with what it lists TIED to the program's text (the seventh form; the later family's looks); each row that meets fmt, with fmt's text TOLD by the authors' own Lean function (tested against real Go, not proved from fmt's source: count such statements apart). THE CARD IS WHAT COUNTS. Prove the row's statement (the work); the ties are given (YtkcclhnligajeaaDoorTie.lean); close each card by the builder's one call (the guide's Derived/Test/ToyasCard.lean, 'card_holds'). Laid BY PROGRAM, IN A SANDBOX (cutbox-door.mjs). By AI agents, Wed Nov 11 2026. No macro, syntax, notation, axiom, sorry.
-/
import Derived.Test.YtkcclhnligajeaaDoorRows
import GoSem.ClaimSeven
namespace Go.Proofs.YtkcclhnligajeaaDoor
namespace Rows

/-- THE TIED CARD OF 'laws.FnExactSumOfWeights'. -/
def fnExactSumOfWeightsCard : Claim7 := { stood := { row := fnExactSumOfWeightsRow, standIns := [], harness := (true, "f09d365a8a12df88bf7200b0f7aaceea1634200c5cc40976372ad3899a2eff72"), looks := false }, kinds := [], alts := [], laidByText := true, laidKinds := [.data, .data], laidTests := true, laidLooks := .later }
def FnExactSumOfWeightsCardSaid : Prop := Claim7.holds Tryd.pinned (.plain (OpenSpec.ofChange fnExactSumOfWeightsSpec)) fnExactSumOfWeightsCard

/-- THE SECOND FORM's CARD OF 'laws.FnExactSumOfWeights'. -/
def fnExactSumOfWeightsUptoCard : Claim7 := { stood := { row := fnExactSumOfWeightsUptoRow, standIns := [], harness := (true, "f09d365a8a12df88bf7200b0f7aaceea1634200c5cc40976372ad3899a2eff72"), looks := false }, kinds := [], alts := [], laidByText := true, laidKinds := [.data, .data], laidTests := true, laidLooks := .later }
def FnExactSumOfWeightsUptoCardSaid : Prop := Claim7.holds Tryd.pinned (.plain (OpenSpec.upto fnExactSumOfWeightsSpec)) fnExactSumOfWeightsUptoCard
end Rows
end Go.Proofs.YtkcclhnligajeaaDoor
