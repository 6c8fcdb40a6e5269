/-
  DERIVED. GIVEN WITH THE SEED: THE CARDS: each row of YtelepfablohdmaaGreatDoorRows.lean that lists a variable, with what it lists TIED to the program's text (the seventh form; the later family's looks); each row that meets fmt, with fmt's text TOLD by the authors' own Lean function (tested against real Go, not proved from fmt's source: count such statements apart). THE CARD IS WHAT COUNTS. Prove the row's statement (the work); the ties are given (YtelepfablohdmaaGreatDoorTie.lean); close each card by the builder's one call (the guide's Derived/Test/ToyasCard.lean, 'card_holds'). Laid BY PROGRAM, IN A SANDBOX (cutbox-door.mjs). By AI agents, Wed Nov 11 2026. No macro, syntax, notation, axiom, sorry.
-/
import Derived.Test.YtelepfablohdmaaGreatDoorRows
import GoSem.ClaimSeven
namespace Go.Proofs.YtelepfablohdmaaGreatDoor
namespace Rows

/-- THE TIED CARD OF 'bullalaw03.PlaceChecks'. -/
def placeChecksCard : Claim7 := { stood := { row := placeChecksRow, standIns := [], harness := (true, "3dbcbd4109e0c1d89fb1f3793e36191d7b54fa4efe6209ee3821381d6668b83f"), looks := true }, kinds := [], alts := [], laidByText := true, laidKinds := [.data, .data, .data, .sentinel, .sentinel], laidTests := true, laidLooks := .later }
def PlaceChecksCardSaid : Prop := Claim7.holds Tryz.pinned (.plain (OpenSpec.ofChange placeChecksSpec)) placeChecksCard

/-- THE TIED CARD OF 'bullalaw03.PlaceTables'. -/
def placeTablesCard : Claim7 := { stood := { row := placeTablesRow, standIns := [], harness := (true, "3dbcbd4109e0c1d89fb1f3793e36191d7b54fa4efe6209ee3821381d6668b83f"), looks := true }, kinds := [], alts := [], laidByText := true, laidKinds := [.data, .data, .data, .sentinel, .sentinel], laidTests := true, laidLooks := .later }
def PlaceTablesCardSaid : Prop := Claim7.holds Tryz.pinned (.plain (OpenSpec.ofChange placeTablesSpec)) placeTablesCard

/-- THE TIED CARD OF 'bullalaw03.PlaceRecips'. -/
def placeRecipsCard : Claim7 := { stood := { row := placeRecipsRow, standIns := [], harness := (true, "3dbcbd4109e0c1d89fb1f3793e36191d7b54fa4efe6209ee3821381d6668b83f"), looks := true }, kinds := [], alts := [], laidByText := true, laidKinds := [.data, .data, .data, .sentinel, .sentinel], laidTests := true, laidLooks := .later }
def PlaceRecipsCardSaid : Prop := Claim7.holds Tryz.pinned (.plain (OpenSpec.ofChange placeRecipsSpec)) placeRecipsCard

/-- THE TIED CARD OF 'bullalaw03.PlacePairs'. -/
def placePairsCard : Claim7 := { stood := { row := placePairsRow, standIns := [], harness := (true, "3dbcbd4109e0c1d89fb1f3793e36191d7b54fa4efe6209ee3821381d6668b83f"), looks := true }, kinds := [], alts := [], laidByText := true, laidKinds := [.data, .data, .data, .sentinel, .sentinel], laidTests := true, laidLooks := .later }
def PlacePairsCardSaid : Prop := Claim7.holds Tryz.pinned (.plain (OpenSpec.ofChange placePairsSpec)) placePairsCard

/-- THE TIED CARD OF 'bullalaw03.PlaceSums'. -/
def placeSumsCard : Claim7 := { stood := { row := placeSumsRow, standIns := [], harness := (true, "3dbcbd4109e0c1d89fb1f3793e36191d7b54fa4efe6209ee3821381d6668b83f"), looks := true }, kinds := [], alts := [], laidByText := true, laidKinds := [.data, .data, .data, .sentinel, .sentinel], laidTests := true, laidLooks := .later }
def PlaceSumsCardSaid : Prop := Claim7.holds Tryz.pinned (.plain (OpenSpec.ofChange placeSumsSpec)) placeSumsCard

/-- THE TIED CARD OF 'bullalaw03.PlaceRatios'. -/
def placeRatiosCard : Claim7 := { stood := { row := placeRatiosRow, standIns := [], harness := (true, "3dbcbd4109e0c1d89fb1f3793e36191d7b54fa4efe6209ee3821381d6668b83f"), looks := true }, kinds := [], alts := [], laidByText := true, laidKinds := [.data, .data, .data, .sentinel, .sentinel], laidTests := true, laidLooks := .later }
def PlaceRatiosCardSaid : Prop := Claim7.holds Tryz.pinned (.plain (OpenSpec.ofChange placeRatiosSpec)) placeRatiosCard

/-- THE TIED CARD OF 'bullalaw03.PlaceStepsMake'. -/
def placeStepsMakeCard : Claim7 := { stood := { row := placeStepsMakeRow, standIns := [], harness := (true, "3dbcbd4109e0c1d89fb1f3793e36191d7b54fa4efe6209ee3821381d6668b83f"), looks := true }, kinds := [], alts := [], laidByText := true, laidKinds := [.data, .data, .data, .sentinel, .sentinel], laidTests := true, laidLooks := .later }
def PlaceStepsMakeCardSaid : Prop := Claim7.holds Tryz.pinned (.plain (OpenSpec.ofChange placeStepsMakeSpec)) placeStepsMakeCard

/-- THE TIED CARD OF 'bullalaw03.PlaceNearBounds'. -/
def placeNearBoundsCard : Claim7 := { stood := { row := placeNearBoundsRow, standIns := [], harness := (true, "3dbcbd4109e0c1d89fb1f3793e36191d7b54fa4efe6209ee3821381d6668b83f"), looks := true }, kinds := [], alts := [], laidByText := true, laidKinds := [.data, .data, .data, .sentinel, .sentinel], laidTests := true, laidLooks := .later }
def PlaceNearBoundsCardSaid : Prop := Claim7.holds Tryz.pinned (.plain (OpenSpec.ofChange placeNearBoundsSpec)) placeNearBoundsCard

/-- THE TIED CARD OF 'bullalaw03.PlaceRootBounds'. -/
def placeRootBoundsCard : Claim7 := { stood := { row := placeRootBoundsRow, standIns := [], harness := (true, "3dbcbd4109e0c1d89fb1f3793e36191d7b54fa4efe6209ee3821381d6668b83f"), looks := true }, kinds := [], alts := [], laidByText := true, laidKinds := [.data, .data, .data, .sentinel, .sentinel], laidTests := true, laidLooks := .later }
def PlaceRootBoundsCardSaid : Prop := Claim7.holds Tryz.pinned (.plain (OpenSpec.ofChange placeRootBoundsSpec)) placeRootBoundsCard

/-- THE TIED CARD OF 'bullalaw03.PlaceKnown'. -/
def placeKnownCard : Claim7 := { stood := { row := placeKnownRow, standIns := [], harness := (true, "3dbcbd4109e0c1d89fb1f3793e36191d7b54fa4efe6209ee3821381d6668b83f"), looks := true }, kinds := [], alts := [], laidByText := true, laidKinds := [.data, .data, .data, .sentinel, .sentinel], laidTests := true, laidLooks := .later }
def PlaceKnownCardSaid : Prop := Claim7.holds Tryz.pinned (.plain (OpenSpec.ofChange placeKnownSpec)) placeKnownCard

/-- THE SECOND FORM's CARD OF 'bullalaw03.PlaceChecks'. -/
def placeChecksUptoCard : Claim7 := { stood := { row := placeChecksUptoRow, standIns := [], harness := (true, "3dbcbd4109e0c1d89fb1f3793e36191d7b54fa4efe6209ee3821381d6668b83f"), looks := true }, kinds := [], alts := [], laidByText := true, laidKinds := [.data, .data, .data, .sentinel, .sentinel], laidTests := true, laidLooks := .later }
def PlaceChecksUptoCardSaid : Prop := Claim7.holds Tryz.pinned (.plain (OpenSpec.upto placeChecksSpec)) placeChecksUptoCard

/-- THE SECOND FORM's CARD OF 'bullalaw03.PlaceTables'. -/
def placeTablesUptoCard : Claim7 := { stood := { row := placeTablesUptoRow, standIns := [], harness := (true, "3dbcbd4109e0c1d89fb1f3793e36191d7b54fa4efe6209ee3821381d6668b83f"), looks := true }, kinds := [], alts := [], laidByText := true, laidKinds := [.data, .data, .data, .sentinel, .sentinel], laidTests := true, laidLooks := .later }
def PlaceTablesUptoCardSaid : Prop := Claim7.holds Tryz.pinned (.plain (OpenSpec.upto placeTablesSpec)) placeTablesUptoCard

/-- THE SECOND FORM's CARD OF 'bullalaw03.PlaceRecips'. -/
def placeRecipsUptoCard : Claim7 := { stood := { row := placeRecipsUptoRow, standIns := [], harness := (true, "3dbcbd4109e0c1d89fb1f3793e36191d7b54fa4efe6209ee3821381d6668b83f"), looks := true }, kinds := [], alts := [], laidByText := true, laidKinds := [.data, .data, .data, .sentinel, .sentinel], laidTests := true, laidLooks := .later }
def PlaceRecipsUptoCardSaid : Prop := Claim7.holds Tryz.pinned (.plain (OpenSpec.upto placeRecipsSpec)) placeRecipsUptoCard

/-- THE SECOND FORM's CARD OF 'bullalaw03.PlacePairs'. -/
def placePairsUptoCard : Claim7 := { stood := { row := placePairsUptoRow, standIns := [], harness := (true, "3dbcbd4109e0c1d89fb1f3793e36191d7b54fa4efe6209ee3821381d6668b83f"), looks := true }, kinds := [], alts := [], laidByText := true, laidKinds := [.data, .data, .data, .sentinel, .sentinel], laidTests := true, laidLooks := .later }
def PlacePairsUptoCardSaid : Prop := Claim7.holds Tryz.pinned (.plain (OpenSpec.upto placePairsSpec)) placePairsUptoCard

/-- THE SECOND FORM's CARD OF 'bullalaw03.PlaceSums'. -/
def placeSumsUptoCard : Claim7 := { stood := { row := placeSumsUptoRow, standIns := [], harness := (true, "3dbcbd4109e0c1d89fb1f3793e36191d7b54fa4efe6209ee3821381d6668b83f"), looks := true }, kinds := [], alts := [], laidByText := true, laidKinds := [.data, .data, .data, .sentinel, .sentinel], laidTests := true, laidLooks := .later }
def PlaceSumsUptoCardSaid : Prop := Claim7.holds Tryz.pinned (.plain (OpenSpec.upto placeSumsSpec)) placeSumsUptoCard

/-- THE SECOND FORM's CARD OF 'bullalaw03.PlaceRatios'. -/
def placeRatiosUptoCard : Claim7 := { stood := { row := placeRatiosUptoRow, standIns := [], harness := (true, "3dbcbd4109e0c1d89fb1f3793e36191d7b54fa4efe6209ee3821381d6668b83f"), looks := true }, kinds := [], alts := [], laidByText := true, laidKinds := [.data, .data, .data, .sentinel, .sentinel], laidTests := true, laidLooks := .later }
def PlaceRatiosUptoCardSaid : Prop := Claim7.holds Tryz.pinned (.plain (OpenSpec.upto placeRatiosSpec)) placeRatiosUptoCard

/-- THE SECOND FORM's CARD OF 'bullalaw03.PlaceStepsMake'. -/
def placeStepsMakeUptoCard : Claim7 := { stood := { row := placeStepsMakeUptoRow, standIns := [], harness := (true, "3dbcbd4109e0c1d89fb1f3793e36191d7b54fa4efe6209ee3821381d6668b83f"), looks := true }, kinds := [], alts := [], laidByText := true, laidKinds := [.data, .data, .data, .sentinel, .sentinel], laidTests := true, laidLooks := .later }
def PlaceStepsMakeUptoCardSaid : Prop := Claim7.holds Tryz.pinned (.plain (OpenSpec.upto placeStepsMakeSpec)) placeStepsMakeUptoCard

/-- THE SECOND FORM's CARD OF 'bullalaw03.PlaceNearBounds'. -/
def placeNearBoundsUptoCard : Claim7 := { stood := { row := placeNearBoundsUptoRow, standIns := [], harness := (true, "3dbcbd4109e0c1d89fb1f3793e36191d7b54fa4efe6209ee3821381d6668b83f"), looks := true }, kinds := [], alts := [], laidByText := true, laidKinds := [.data, .data, .data, .sentinel, .sentinel], laidTests := true, laidLooks := .later }
def PlaceNearBoundsUptoCardSaid : Prop := Claim7.holds Tryz.pinned (.plain (OpenSpec.upto placeNearBoundsSpec)) placeNearBoundsUptoCard

/-- THE SECOND FORM's CARD OF 'bullalaw03.PlaceRootBounds'. -/
def placeRootBoundsUptoCard : Claim7 := { stood := { row := placeRootBoundsUptoRow, standIns := [], harness := (true, "3dbcbd4109e0c1d89fb1f3793e36191d7b54fa4efe6209ee3821381d6668b83f"), looks := true }, kinds := [], alts := [], laidByText := true, laidKinds := [.data, .data, .data, .sentinel, .sentinel], laidTests := true, laidLooks := .later }
def PlaceRootBoundsUptoCardSaid : Prop := Claim7.holds Tryz.pinned (.plain (OpenSpec.upto placeRootBoundsSpec)) placeRootBoundsUptoCard

/-- THE SECOND FORM's CARD OF 'bullalaw03.PlaceKnown'. -/
def placeKnownUptoCard : Claim7 := { stood := { row := placeKnownUptoRow, standIns := [], harness := (true, "3dbcbd4109e0c1d89fb1f3793e36191d7b54fa4efe6209ee3821381d6668b83f"), looks := true }, kinds := [], alts := [], laidByText := true, laidKinds := [.data, .data, .data, .sentinel, .sentinel], laidTests := true, laidLooks := .later }
def PlaceKnownUptoCardSaid : Prop := Claim7.holds Tryz.pinned (.plain (OpenSpec.upto placeKnownSpec)) placeKnownUptoCard
end Rows
end Go.Proofs.YtelepfablohdmaaGreatDoor
