/-
  DERIVED. GIVEN WITH THE SEED: THE CARDS: each row of YtailmmamgnebhaaGreatDoorRows.lean that lists a variable, with what it lists TIED to the program's text (the seventh form; the later family's looks); each row that meets fmt, with fmt's text TOLD by the authors' own Lean function (tested against real Go, not proved from fmt's source: count such statements apart). THE CARD IS WHAT COUNTS. Prove the row's statement (the work); the ties are given (YtailmmamgnebhaaGreatDoorTie.lean); close each card by the builder's one call (the guide's Derived/Test/ToyasCard.lean, 'card_holds'). Laid BY PROGRAM, IN A SANDBOX (cutbox-door.mjs). By AI agents, Wed Nov 11 2026. No macro, syntax, notation, axiom, sorry.
-/
import Derived.Test.YtailmmamgnebhaaGreatDoorRows
import GoSem.ClaimSeven
namespace Go.Proofs.YtailmmamgnebhaaGreatDoor
namespace Rows

/-- THE TIED CARD OF 'laws.FnPlaces'. -/
def fnPlacesCard : Claim7 := { stood := { row := fnPlacesRow, standIns := [], harness := (true, "bacdb30a22fdfb334d9e67e51f518fae07f0a3026860eeadc5d79cbc87f21905"), looks := false }, kinds := [], alts := [], laidByText := true, laidKinds := [.data, .data], laidTests := true, laidLooks := .later }
def FnPlacesCardSaid : Prop := Claim7.holds Tryz.pinned (.plain (OpenSpec.ofChange fnPlacesSpec)) fnPlacesCard

/-- THE TIED CARD OF 'laws.FnCovers'. -/
def fnCoversCard : Claim7 := { stood := { row := fnCoversRow, standIns := [], harness := (true, "bacdb30a22fdfb334d9e67e51f518fae07f0a3026860eeadc5d79cbc87f21905"), looks := false }, kinds := [], alts := [], laidByText := true, laidKinds := [.data, .data], laidTests := true, laidLooks := .later }
def FnCoversCardSaid : Prop := Claim7.holds Tryz.pinned (.plain (OpenSpec.ofChange fnCoversSpec)) fnCoversCard

/-- THE TIED CARD OF 'laws.FnExactIsTiling'. -/
def fnExactIsTilingCard : Claim7 := { stood := { row := fnExactIsTilingRow, standIns := [], harness := (true, "bacdb30a22fdfb334d9e67e51f518fae07f0a3026860eeadc5d79cbc87f21905"), looks := false }, kinds := [], alts := [], laidByText := true, laidKinds := [.data, .data], laidTests := true, laidLooks := .later }
def FnExactIsTilingCardSaid : Prop := Claim7.holds Tryz.pinned (.plain (OpenSpec.ofChange fnExactIsTilingSpec)) fnExactIsTilingCard

/-- THE TIED CARD OF 'laws.FnExactFindTiling'. -/
def fnExactFindTilingCard : Claim7 := { stood := { row := fnExactFindTilingRow, standIns := [], harness := (true, "bacdb30a22fdfb334d9e67e51f518fae07f0a3026860eeadc5d79cbc87f21905"), looks := false }, kinds := [], alts := [], laidByText := true, laidKinds := [.data, .data], laidTests := true, laidLooks := .later }
def FnExactFindTilingCardSaid : Prop := Claim7.holds Tryz.pinned (.plain (OpenSpec.ofChange fnExactFindTilingSpec)) fnExactFindTilingCard

/-- THE TIED CARD OF 'laws.FnExactHasTiling'. -/
def fnExactHasTilingCard : Claim7 := { stood := { row := fnExactHasTilingRow, standIns := [], harness := (true, "bacdb30a22fdfb334d9e67e51f518fae07f0a3026860eeadc5d79cbc87f21905"), looks := false }, kinds := [], alts := [], laidByText := true, laidKinds := [.data, .data], laidTests := true, laidLooks := .later }
def FnExactHasTilingCardSaid : Prop := Claim7.holds Tryz.pinned (.plain (OpenSpec.ofChange fnExactHasTilingSpec)) fnExactHasTilingCard

/-- THE TIED CARD OF 'laws.FnExactCountTilings'. -/
def fnExactCountTilingsCard : Claim7 := { stood := { row := fnExactCountTilingsRow, standIns := [], harness := (true, "bacdb30a22fdfb334d9e67e51f518fae07f0a3026860eeadc5d79cbc87f21905"), looks := false }, kinds := [], alts := [], laidByText := true, laidKinds := [.data, .data], laidTests := true, laidLooks := .later }
def FnExactCountTilingsCardSaid : Prop := Claim7.holds Tryz.pinned (.plain (OpenSpec.ofChange fnExactCountTilingsSpec)) fnExactCountTilingsCard

/-- THE TIED CARD OF 'laws.FnExactTilingNumber'. -/
def fnExactTilingNumberCard : Claim7 := { stood := { row := fnExactTilingNumberRow, standIns := [], harness := (true, "bacdb30a22fdfb334d9e67e51f518fae07f0a3026860eeadc5d79cbc87f21905"), looks := false }, kinds := [], alts := [], laidByText := true, laidKinds := [.data, .data], laidTests := true, laidLooks := .later }
def FnExactTilingNumberCardSaid : Prop := Claim7.holds Tryz.pinned (.plain (OpenSpec.ofChange fnExactTilingNumberSpec)) fnExactTilingNumberCard

/-- THE SECOND FORM's CARD OF 'laws.FnPlaces'. -/
def fnPlacesUptoCard : Claim7 := { stood := { row := fnPlacesUptoRow, standIns := [], harness := (true, "bacdb30a22fdfb334d9e67e51f518fae07f0a3026860eeadc5d79cbc87f21905"), looks := false }, kinds := [], alts := [], laidByText := true, laidKinds := [.data, .data], laidTests := true, laidLooks := .later }
def FnPlacesUptoCardSaid : Prop := Claim7.holds Tryz.pinned (.plain (OpenSpec.upto fnPlacesSpec)) fnPlacesUptoCard

/-- THE SECOND FORM's CARD OF 'laws.FnCovers'. -/
def fnCoversUptoCard : Claim7 := { stood := { row := fnCoversUptoRow, standIns := [], harness := (true, "bacdb30a22fdfb334d9e67e51f518fae07f0a3026860eeadc5d79cbc87f21905"), looks := false }, kinds := [], alts := [], laidByText := true, laidKinds := [.data, .data], laidTests := true, laidLooks := .later }
def FnCoversUptoCardSaid : Prop := Claim7.holds Tryz.pinned (.plain (OpenSpec.upto fnCoversSpec)) fnCoversUptoCard

/-- THE SECOND FORM's CARD OF 'laws.FnExactIsTiling'. -/
def fnExactIsTilingUptoCard : Claim7 := { stood := { row := fnExactIsTilingUptoRow, standIns := [], harness := (true, "bacdb30a22fdfb334d9e67e51f518fae07f0a3026860eeadc5d79cbc87f21905"), looks := false }, kinds := [], alts := [], laidByText := true, laidKinds := [.data, .data], laidTests := true, laidLooks := .later }
def FnExactIsTilingUptoCardSaid : Prop := Claim7.holds Tryz.pinned (.plain (OpenSpec.upto fnExactIsTilingSpec)) fnExactIsTilingUptoCard

/-- THE SECOND FORM's CARD OF 'laws.FnExactFindTiling'. -/
def fnExactFindTilingUptoCard : Claim7 := { stood := { row := fnExactFindTilingUptoRow, standIns := [], harness := (true, "bacdb30a22fdfb334d9e67e51f518fae07f0a3026860eeadc5d79cbc87f21905"), looks := false }, kinds := [], alts := [], laidByText := true, laidKinds := [.data, .data], laidTests := true, laidLooks := .later }
def FnExactFindTilingUptoCardSaid : Prop := Claim7.holds Tryz.pinned (.plain (OpenSpec.upto fnExactFindTilingSpec)) fnExactFindTilingUptoCard

/-- THE SECOND FORM's CARD OF 'laws.FnExactHasTiling'. -/
def fnExactHasTilingUptoCard : Claim7 := { stood := { row := fnExactHasTilingUptoRow, standIns := [], harness := (true, "bacdb30a22fdfb334d9e67e51f518fae07f0a3026860eeadc5d79cbc87f21905"), looks := false }, kinds := [], alts := [], laidByText := true, laidKinds := [.data, .data], laidTests := true, laidLooks := .later }
def FnExactHasTilingUptoCardSaid : Prop := Claim7.holds Tryz.pinned (.plain (OpenSpec.upto fnExactHasTilingSpec)) fnExactHasTilingUptoCard

/-- THE SECOND FORM's CARD OF 'laws.FnExactCountTilings'. -/
def fnExactCountTilingsUptoCard : Claim7 := { stood := { row := fnExactCountTilingsUptoRow, standIns := [], harness := (true, "bacdb30a22fdfb334d9e67e51f518fae07f0a3026860eeadc5d79cbc87f21905"), looks := false }, kinds := [], alts := [], laidByText := true, laidKinds := [.data, .data], laidTests := true, laidLooks := .later }
def FnExactCountTilingsUptoCardSaid : Prop := Claim7.holds Tryz.pinned (.plain (OpenSpec.upto fnExactCountTilingsSpec)) fnExactCountTilingsUptoCard

/-- THE SECOND FORM's CARD OF 'laws.FnExactTilingNumber'. -/
def fnExactTilingNumberUptoCard : Claim7 := { stood := { row := fnExactTilingNumberUptoRow, standIns := [], harness := (true, "bacdb30a22fdfb334d9e67e51f518fae07f0a3026860eeadc5d79cbc87f21905"), looks := false }, kinds := [], alts := [], laidByText := true, laidKinds := [.data, .data], laidTests := true, laidLooks := .later }
def FnExactTilingNumberUptoCardSaid : Prop := Claim7.holds Tryz.pinned (.plain (OpenSpec.upto fnExactTilingNumberSpec)) fnExactTilingNumberUptoCard
end Rows
end Go.Proofs.YtailmmamgnebhaaGreatDoor
