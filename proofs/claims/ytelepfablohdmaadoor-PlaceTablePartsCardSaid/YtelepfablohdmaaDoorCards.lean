/-
  DERIVED. GIVEN WITH THE SEED: THE CARDS: each row of YtelepfablohdmaaDoorRows.lean that lists a variable, with what it lists TIED to the program's text (the seventh form; the later family's looks); each row that meets fmt, with fmt's text TOLD by the authors' own Lean function (tested against real Go, not proved from fmt's source: count such statements apart). THE CARD IS WHAT COUNTS. Prove the row's statement (the work); the ties are given (YtelepfablohdmaaDoorTie.lean); close each card by the builder's one call (the guide's Derived/Test/ToyasCard.lean, 'card_holds'). Laid BY PROGRAM, IN A SANDBOX (cutbox-door.mjs). By AI agents, Wed Nov 11 2026. No macro, syntax, notation, axiom, sorry.
-/
import Derived.Test.YtelepfablohdmaaDoorRows
import GoSem.ClaimSeven
namespace Go.Proofs.YtelepfablohdmaaDoor
namespace Rows

/-- THE TIED CARD OF 'bullalaw03.PlaceParses'. -/
def placeParsesCard : Claim7 := { stood := { row := placeParsesRow, standIns := [], harness := (true, "bd892c4444a31cd429df92d33bdde4b8fe5a6a42d748716a65f78352491fc3bf"), looks := true }, kinds := [], alts := [], laidByText := true, laidKinds := [.data, .data, .data, .sentinel, .sentinel], laidTests := true, laidLooks := .later }
def PlaceParsesCardSaid : Prop := Claim7.holds Tryd.pinned (.plain (OpenSpec.ofChange placeParsesSpec)) placeParsesCard

/-- THE TIED CARD OF 'bullalaw03.PlaceMuls'. -/
def placeMulsCard : Claim7 := { stood := { row := placeMulsRow, standIns := [], harness := (true, "bd892c4444a31cd429df92d33bdde4b8fe5a6a42d748716a65f78352491fc3bf"), looks := true }, kinds := [], alts := [], laidByText := true, laidKinds := [.data, .data, .data, .sentinel, .sentinel], laidTests := true, laidLooks := .later }
def PlaceMulsCardSaid : Prop := Claim7.holds Tryd.pinned (.plain (OpenSpec.ofChange placeMulsSpec)) placeMulsCard

/-- THE TIED CARD OF 'bullalaw03.PlaceNears'. -/
def placeNearsCard : Claim7 := { stood := { row := placeNearsRow, standIns := [], harness := (true, "bd892c4444a31cd429df92d33bdde4b8fe5a6a42d748716a65f78352491fc3bf"), looks := true }, kinds := [], alts := [], laidByText := true, laidKinds := [.data, .data, .data, .sentinel, .sentinel], laidTests := true, laidLooks := .later }
def PlaceNearsCardSaid : Prop := Claim7.holds Tryd.pinned (.plain (OpenSpec.ofChange placeNearsSpec)) placeNearsCard

/-- THE TIED CARD OF 'bullalaw03.PlaceMulLaws'. -/
def placeMulLawsCard : Claim7 := { stood := { row := placeMulLawsRow, standIns := [], harness := (true, "bd892c4444a31cd429df92d33bdde4b8fe5a6a42d748716a65f78352491fc3bf"), looks := true }, kinds := [], alts := [], laidByText := true, laidKinds := [.data, .data, .data, .sentinel, .sentinel], laidTests := true, laidLooks := .later }
def PlaceMulLawsCardSaid : Prop := Claim7.holds Tryd.pinned (.plain (OpenSpec.ofChange placeMulLawsSpec)) placeMulLawsCard

/-- THE TIED CARD OF 'bullalaw03.PlaceDigitsBack'. -/
def placeDigitsBackCard : Claim7 := { stood := { row := placeDigitsBackRow, standIns := [], harness := (true, "bd892c4444a31cd429df92d33bdde4b8fe5a6a42d748716a65f78352491fc3bf"), looks := true }, kinds := [], alts := [], laidByText := true, laidKinds := [.data, .data, .data, .sentinel, .sentinel], laidTests := true, laidLooks := .later }
def PlaceDigitsBackCardSaid : Prop := Claim7.holds Tryd.pinned (.plain (OpenSpec.ofChange placeDigitsBackSpec)) placeDigitsBackCard

/-- THE TIED CARD OF 'bullalaw03.PlaceWholeBack'. -/
def placeWholeBackCard : Claim7 := { stood := { row := placeWholeBackRow, standIns := [], harness := (true, "bd892c4444a31cd429df92d33bdde4b8fe5a6a42d748716a65f78352491fc3bf"), looks := true }, kinds := [], alts := [], laidByText := true, laidKinds := [.data, .data, .data, .sentinel, .sentinel], laidTests := true, laidLooks := .later }
def PlaceWholeBackCardSaid : Prop := Claim7.holds Tryd.pinned (.plain (OpenSpec.ofChange placeWholeBackSpec)) placeWholeBackCard

/-- THE TIED CARD OF 'bullalaw03.PlaceRecipTwice'. -/
def placeRecipTwiceCard : Claim7 := { stood := { row := placeRecipTwiceRow, standIns := [], harness := (true, "bd892c4444a31cd429df92d33bdde4b8fe5a6a42d748716a65f78352491fc3bf"), looks := true }, kinds := [], alts := [], laidByText := true, laidKinds := [.data, .data, .data, .sentinel, .sentinel], laidTests := true, laidLooks := .later }
def PlaceRecipTwiceCardSaid : Prop := Claim7.holds Tryd.pinned (.plain (OpenSpec.ofChange placeRecipTwiceSpec)) placeRecipTwiceCard

/-- THE TIED CARD OF 'bullalaw03.PlaceRecipProduct'. -/
def placeRecipProductCard : Claim7 := { stood := { row := placeRecipProductRow, standIns := [], harness := (true, "bd892c4444a31cd429df92d33bdde4b8fe5a6a42d748716a65f78352491fc3bf"), looks := true }, kinds := [], alts := [], laidByText := true, laidKinds := [.data, .data, .data, .sentinel, .sentinel], laidTests := true, laidLooks := .later }
def PlaceRecipProductCardSaid : Prop := Claim7.holds Tryd.pinned (.plain (OpenSpec.ofChange placeRecipProductSpec)) placeRecipProductCard

/-- THE TIED CARD OF 'bullalaw03.PlaceTableParts'. -/
def placeTablePartsCard : Claim7 := { stood := { row := placeTablePartsRow, standIns := [], harness := (true, "bd892c4444a31cd429df92d33bdde4b8fe5a6a42d748716a65f78352491fc3bf"), looks := true }, kinds := [], alts := [], laidByText := true, laidKinds := [.data, .data, .data, .sentinel, .sentinel], laidTests := true, laidLooks := .later }
def PlaceTablePartsCardSaid : Prop := Claim7.holds Tryd.pinned (.plain (OpenSpec.ofChange placeTablePartsSpec)) placeTablePartsCard

/-- THE TIED CARD OF 'bullalaw03.PlaceRatioBack'. -/
def placeRatioBackCard : Claim7 := { stood := { row := placeRatioBackRow, standIns := [], harness := (true, "bd892c4444a31cd429df92d33bdde4b8fe5a6a42d748716a65f78352491fc3bf"), looks := true }, kinds := [], alts := [], laidByText := true, laidKinds := [.data, .data, .data, .sentinel, .sentinel], laidTests := true, laidLooks := .later }
def PlaceRatioBackCardSaid : Prop := Claim7.holds Tryd.pinned (.plain (OpenSpec.ofChange placeRatioBackSpec)) placeRatioBackCard

/-- THE SECOND FORM's CARD OF 'bullalaw03.PlaceParses'. -/
def placeParsesUptoCard : Claim7 := { stood := { row := placeParsesUptoRow, standIns := [], harness := (true, "bd892c4444a31cd429df92d33bdde4b8fe5a6a42d748716a65f78352491fc3bf"), looks := true }, kinds := [], alts := [], laidByText := true, laidKinds := [.data, .data, .data, .sentinel, .sentinel], laidTests := true, laidLooks := .later }
def PlaceParsesUptoCardSaid : Prop := Claim7.holds Tryd.pinned (.plain (OpenSpec.upto placeParsesSpec)) placeParsesUptoCard

/-- THE SECOND FORM's CARD OF 'bullalaw03.PlaceMuls'. -/
def placeMulsUptoCard : Claim7 := { stood := { row := placeMulsUptoRow, standIns := [], harness := (true, "bd892c4444a31cd429df92d33bdde4b8fe5a6a42d748716a65f78352491fc3bf"), looks := true }, kinds := [], alts := [], laidByText := true, laidKinds := [.data, .data, .data, .sentinel, .sentinel], laidTests := true, laidLooks := .later }
def PlaceMulsUptoCardSaid : Prop := Claim7.holds Tryd.pinned (.plain (OpenSpec.upto placeMulsSpec)) placeMulsUptoCard

/-- THE SECOND FORM's CARD OF 'bullalaw03.PlaceNears'. -/
def placeNearsUptoCard : Claim7 := { stood := { row := placeNearsUptoRow, standIns := [], harness := (true, "bd892c4444a31cd429df92d33bdde4b8fe5a6a42d748716a65f78352491fc3bf"), looks := true }, kinds := [], alts := [], laidByText := true, laidKinds := [.data, .data, .data, .sentinel, .sentinel], laidTests := true, laidLooks := .later }
def PlaceNearsUptoCardSaid : Prop := Claim7.holds Tryd.pinned (.plain (OpenSpec.upto placeNearsSpec)) placeNearsUptoCard

/-- THE SECOND FORM's CARD OF 'bullalaw03.PlaceMulLaws'. -/
def placeMulLawsUptoCard : Claim7 := { stood := { row := placeMulLawsUptoRow, standIns := [], harness := (true, "bd892c4444a31cd429df92d33bdde4b8fe5a6a42d748716a65f78352491fc3bf"), looks := true }, kinds := [], alts := [], laidByText := true, laidKinds := [.data, .data, .data, .sentinel, .sentinel], laidTests := true, laidLooks := .later }
def PlaceMulLawsUptoCardSaid : Prop := Claim7.holds Tryd.pinned (.plain (OpenSpec.upto placeMulLawsSpec)) placeMulLawsUptoCard

/-- THE SECOND FORM's CARD OF 'bullalaw03.PlaceDigitsBack'. -/
def placeDigitsBackUptoCard : Claim7 := { stood := { row := placeDigitsBackUptoRow, standIns := [], harness := (true, "bd892c4444a31cd429df92d33bdde4b8fe5a6a42d748716a65f78352491fc3bf"), looks := true }, kinds := [], alts := [], laidByText := true, laidKinds := [.data, .data, .data, .sentinel, .sentinel], laidTests := true, laidLooks := .later }
def PlaceDigitsBackUptoCardSaid : Prop := Claim7.holds Tryd.pinned (.plain (OpenSpec.upto placeDigitsBackSpec)) placeDigitsBackUptoCard

/-- THE SECOND FORM's CARD OF 'bullalaw03.PlaceWholeBack'. -/
def placeWholeBackUptoCard : Claim7 := { stood := { row := placeWholeBackUptoRow, standIns := [], harness := (true, "bd892c4444a31cd429df92d33bdde4b8fe5a6a42d748716a65f78352491fc3bf"), looks := true }, kinds := [], alts := [], laidByText := true, laidKinds := [.data, .data, .data, .sentinel, .sentinel], laidTests := true, laidLooks := .later }
def PlaceWholeBackUptoCardSaid : Prop := Claim7.holds Tryd.pinned (.plain (OpenSpec.upto placeWholeBackSpec)) placeWholeBackUptoCard

/-- THE SECOND FORM's CARD OF 'bullalaw03.PlaceRecipTwice'. -/
def placeRecipTwiceUptoCard : Claim7 := { stood := { row := placeRecipTwiceUptoRow, standIns := [], harness := (true, "bd892c4444a31cd429df92d33bdde4b8fe5a6a42d748716a65f78352491fc3bf"), looks := true }, kinds := [], alts := [], laidByText := true, laidKinds := [.data, .data, .data, .sentinel, .sentinel], laidTests := true, laidLooks := .later }
def PlaceRecipTwiceUptoCardSaid : Prop := Claim7.holds Tryd.pinned (.plain (OpenSpec.upto placeRecipTwiceSpec)) placeRecipTwiceUptoCard

/-- THE SECOND FORM's CARD OF 'bullalaw03.PlaceRecipProduct'. -/
def placeRecipProductUptoCard : Claim7 := { stood := { row := placeRecipProductUptoRow, standIns := [], harness := (true, "bd892c4444a31cd429df92d33bdde4b8fe5a6a42d748716a65f78352491fc3bf"), looks := true }, kinds := [], alts := [], laidByText := true, laidKinds := [.data, .data, .data, .sentinel, .sentinel], laidTests := true, laidLooks := .later }
def PlaceRecipProductUptoCardSaid : Prop := Claim7.holds Tryd.pinned (.plain (OpenSpec.upto placeRecipProductSpec)) placeRecipProductUptoCard

/-- THE SECOND FORM's CARD OF 'bullalaw03.PlaceTableParts'. -/
def placeTablePartsUptoCard : Claim7 := { stood := { row := placeTablePartsUptoRow, standIns := [], harness := (true, "bd892c4444a31cd429df92d33bdde4b8fe5a6a42d748716a65f78352491fc3bf"), looks := true }, kinds := [], alts := [], laidByText := true, laidKinds := [.data, .data, .data, .sentinel, .sentinel], laidTests := true, laidLooks := .later }
def PlaceTablePartsUptoCardSaid : Prop := Claim7.holds Tryd.pinned (.plain (OpenSpec.upto placeTablePartsSpec)) placeTablePartsUptoCard

/-- THE SECOND FORM's CARD OF 'bullalaw03.PlaceRatioBack'. -/
def placeRatioBackUptoCard : Claim7 := { stood := { row := placeRatioBackUptoRow, standIns := [], harness := (true, "bd892c4444a31cd429df92d33bdde4b8fe5a6a42d748716a65f78352491fc3bf"), looks := true }, kinds := [], alts := [], laidByText := true, laidKinds := [.data, .data, .data, .sentinel, .sentinel], laidTests := true, laidLooks := .later }
def PlaceRatioBackUptoCardSaid : Prop := Claim7.holds Tryd.pinned (.plain (OpenSpec.upto placeRatioBackSpec)) placeRatioBackUptoCard
end Rows
end Go.Proofs.YtelepfablohdmaaDoor
