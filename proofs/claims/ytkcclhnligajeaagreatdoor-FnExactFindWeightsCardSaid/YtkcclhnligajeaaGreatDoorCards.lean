/-
  DERIVED. GIVEN WITH THE SEED: THE CARDS: each row of YtkcclhnligajeaaGreatDoorRows.lean that lists a variable, with what it lists TIED to the program's text (the seventh form; the later family's looks); each row that meets fmt, with fmt's text TOLD by the authors' own Lean function (tested against real Go, not proved from fmt's source: count such statements apart). THE CARD IS WHAT COUNTS. Prove the row's statement (the work); the ties are given (YtkcclhnligajeaaGreatDoorTie.lean); close each card by the builder's one call (the guide's Derived/Test/ToyasCard.lean, 'card_holds'). Laid BY PROGRAM, IN A SANDBOX (cutbox-door.mjs). By AI agents, Wed Nov 11 2026. No macro, syntax, notation, axiom, sorry.
-/
import Derived.Test.YtkcclhnligajeaaGreatDoorRows
import GoSem.ClaimSeven
namespace Go.Proofs.YtkcclhnligajeaaGreatDoor
namespace Rows

/-- THE TIED CARD OF 'laws.FnTop'. -/
def fnTopCard : Claim7 := { stood := { row := fnTopRow, standIns := [], harness := (true, "12acc8fb7d1ea2ecfa625e5455db35fb5e4aeed2c0fb427465c4e5f3e78cf7b2"), looks := false }, kinds := [], alts := [], laidByText := true, laidKinds := [.data, .data], laidTests := true, laidLooks := .later }
def FnTopCardSaid : Prop := Claim7.holds Tryz.pinned (.plain (OpenSpec.ofChange fnTopSpec)) fnTopCard

/-- THE TIED CARD OF 'laws.FnWeights'. -/
def fnWeightsCard : Claim7 := { stood := { row := fnWeightsRow, standIns := [], harness := (true, "12acc8fb7d1ea2ecfa625e5455db35fb5e4aeed2c0fb427465c4e5f3e78cf7b2"), looks := false }, kinds := [], alts := [], laidByText := true, laidKinds := [.data, .data], laidTests := true, laidLooks := .later }
def FnWeightsCardSaid : Prop := Claim7.holds Tryz.pinned (.plain (OpenSpec.ofChange fnWeightsSpec)) fnWeightsCard

/-- THE TIED CARD OF 'laws.FnExactIsWeightProof'. -/
def fnExactIsWeightProofCard : Claim7 := { stood := { row := fnExactIsWeightProofRow, standIns := [], harness := (true, "12acc8fb7d1ea2ecfa625e5455db35fb5e4aeed2c0fb427465c4e5f3e78cf7b2"), looks := false }, kinds := [], alts := [], laidByText := true, laidKinds := [.data, .data], laidTests := true, laidLooks := .later }
def FnExactIsWeightProofCardSaid : Prop := Claim7.holds Tryz.pinned (.plain (OpenSpec.ofChange fnExactIsWeightProofSpec)) fnExactIsWeightProofCard

/-- THE TIED CARD OF 'laws.FnExactFindWeights'. -/
def fnExactFindWeightsCard : Claim7 := { stood := { row := fnExactFindWeightsRow, standIns := [], harness := (true, "12acc8fb7d1ea2ecfa625e5455db35fb5e4aeed2c0fb427465c4e5f3e78cf7b2"), looks := false }, kinds := [], alts := [], laidByText := true, laidKinds := [.data, .data], laidTests := true, laidLooks := .later }
def FnExactFindWeightsCardSaid : Prop := Claim7.holds Tryz.pinned (.plain (OpenSpec.ofChange fnExactFindWeightsSpec)) fnExactFindWeightsCard

/-- THE TIED CARD OF 'laws.FnExactIsSignedTiling'. -/
def fnExactIsSignedTilingCard : Claim7 := { stood := { row := fnExactIsSignedTilingRow, standIns := [], harness := (true, "12acc8fb7d1ea2ecfa625e5455db35fb5e4aeed2c0fb427465c4e5f3e78cf7b2"), looks := false }, kinds := [], alts := [], laidByText := true, laidKinds := [.data, .data], laidTests := true, laidLooks := .later }
def FnExactIsSignedTilingCardSaid : Prop := Claim7.holds Tryz.pinned (.plain (OpenSpec.ofChange fnExactIsSignedTilingSpec)) fnExactIsSignedTilingCard

/-- THE TIED CARD OF 'laws.FnExactFindSigned'. -/
def fnExactFindSignedCard : Claim7 := { stood := { row := fnExactFindSignedRow, standIns := [], harness := (true, "12acc8fb7d1ea2ecfa625e5455db35fb5e4aeed2c0fb427465c4e5f3e78cf7b2"), looks := false }, kinds := [], alts := [], laidByText := true, laidKinds := [.data, .data], laidTests := true, laidLooks := .later }
def FnExactFindSignedCardSaid : Prop := Claim7.holds Tryz.pinned (.plain (OpenSpec.ofChange fnExactFindSignedSpec)) fnExactFindSignedCard

/-- THE SECOND FORM's CARD OF 'laws.FnTop'. -/
def fnTopUptoCard : Claim7 := { stood := { row := fnTopUptoRow, standIns := [], harness := (true, "12acc8fb7d1ea2ecfa625e5455db35fb5e4aeed2c0fb427465c4e5f3e78cf7b2"), looks := false }, kinds := [], alts := [], laidByText := true, laidKinds := [.data, .data], laidTests := true, laidLooks := .later }
def FnTopUptoCardSaid : Prop := Claim7.holds Tryz.pinned (.plain (OpenSpec.upto fnTopSpec)) fnTopUptoCard

/-- THE SECOND FORM's CARD OF 'laws.FnWeights'. -/
def fnWeightsUptoCard : Claim7 := { stood := { row := fnWeightsUptoRow, standIns := [], harness := (true, "12acc8fb7d1ea2ecfa625e5455db35fb5e4aeed2c0fb427465c4e5f3e78cf7b2"), looks := false }, kinds := [], alts := [], laidByText := true, laidKinds := [.data, .data], laidTests := true, laidLooks := .later }
def FnWeightsUptoCardSaid : Prop := Claim7.holds Tryz.pinned (.plain (OpenSpec.upto fnWeightsSpec)) fnWeightsUptoCard

/-- THE SECOND FORM's CARD OF 'laws.FnExactIsWeightProof'. -/
def fnExactIsWeightProofUptoCard : Claim7 := { stood := { row := fnExactIsWeightProofUptoRow, standIns := [], harness := (true, "12acc8fb7d1ea2ecfa625e5455db35fb5e4aeed2c0fb427465c4e5f3e78cf7b2"), looks := false }, kinds := [], alts := [], laidByText := true, laidKinds := [.data, .data], laidTests := true, laidLooks := .later }
def FnExactIsWeightProofUptoCardSaid : Prop := Claim7.holds Tryz.pinned (.plain (OpenSpec.upto fnExactIsWeightProofSpec)) fnExactIsWeightProofUptoCard

/-- THE SECOND FORM's CARD OF 'laws.FnExactFindWeights'. -/
def fnExactFindWeightsUptoCard : Claim7 := { stood := { row := fnExactFindWeightsUptoRow, standIns := [], harness := (true, "12acc8fb7d1ea2ecfa625e5455db35fb5e4aeed2c0fb427465c4e5f3e78cf7b2"), looks := false }, kinds := [], alts := [], laidByText := true, laidKinds := [.data, .data], laidTests := true, laidLooks := .later }
def FnExactFindWeightsUptoCardSaid : Prop := Claim7.holds Tryz.pinned (.plain (OpenSpec.upto fnExactFindWeightsSpec)) fnExactFindWeightsUptoCard

/-- THE SECOND FORM's CARD OF 'laws.FnExactIsSignedTiling'. -/
def fnExactIsSignedTilingUptoCard : Claim7 := { stood := { row := fnExactIsSignedTilingUptoRow, standIns := [], harness := (true, "12acc8fb7d1ea2ecfa625e5455db35fb5e4aeed2c0fb427465c4e5f3e78cf7b2"), looks := false }, kinds := [], alts := [], laidByText := true, laidKinds := [.data, .data], laidTests := true, laidLooks := .later }
def FnExactIsSignedTilingUptoCardSaid : Prop := Claim7.holds Tryz.pinned (.plain (OpenSpec.upto fnExactIsSignedTilingSpec)) fnExactIsSignedTilingUptoCard

/-- THE SECOND FORM's CARD OF 'laws.FnExactFindSigned'. -/
def fnExactFindSignedUptoCard : Claim7 := { stood := { row := fnExactFindSignedUptoRow, standIns := [], harness := (true, "12acc8fb7d1ea2ecfa625e5455db35fb5e4aeed2c0fb427465c4e5f3e78cf7b2"), looks := false }, kinds := [], alts := [], laidByText := true, laidKinds := [.data, .data], laidTests := true, laidLooks := .later }
def FnExactFindSignedUptoCardSaid : Prop := Claim7.holds Tryz.pinned (.plain (OpenSpec.upto fnExactFindSignedSpec)) fnExactFindSignedUptoCard
end Rows
end Go.Proofs.YtkcclhnligajeaaGreatDoor
