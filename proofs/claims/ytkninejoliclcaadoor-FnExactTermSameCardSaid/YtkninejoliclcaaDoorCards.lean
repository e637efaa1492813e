/-
  DERIVED. GIVEN WITH THE SEED: THE CARDS: each row of YtkninejoliclcaaDoorRows.lean that lists a variable, with what it lists TIED to the program's text (the seventh form; the later family's looks); each row that meets fmt, with fmt's text TOLD by the authors' own Lean function (tested against real Go, not proved from fmt's source: count such statements apart). THE CARD IS WHAT COUNTS. Prove the row's statement (the work); the ties are given (YtkninejoliclcaaDoorTie.lean); close each card by the builder's one call (the guide's Derived/Test/ToyasCard.lean, 'card_holds'). Laid BY PROGRAM, IN A SANDBOX (cutbox-door.mjs). By AI agents, Wed Nov 11 2026. No macro, syntax, notation, axiom, sorry.
-/
import Derived.Test.YtkninejoliclcaaDoorRows
import GoSem.ClaimSeven
namespace Go.Proofs.YtkninejoliclcaaDoor
namespace Rows

/-- THE TIED CARD OF 'laws.FnExactTermIn'. -/
def fnExactTermInCard : Claim7 := { stood := { row := fnExactTermInRow, standIns := [], harness := (true, "3d3cf58b3081faafe9f35191e0dcebfe6f7bd0c1a736c883d35d8b8705c172fc"), looks := true }, kinds := [], alts := [], laidByText := true, laidKinds := [.handle], laidTests := true, laidLooks := .later }
def FnExactTermInCardSaid : Prop := Claim7.holds Tryd.pinned (.plain (OpenSpec.ofChange fnExactTermInSpec)) fnExactTermInCard

/-- THE TIED CARD OF 'laws.FnExactTermGraph'. -/
def fnExactTermGraphCard : Claim7 := { stood := { row := fnExactTermGraphRow, standIns := [], harness := (true, "3d3cf58b3081faafe9f35191e0dcebfe6f7bd0c1a736c883d35d8b8705c172fc"), looks := true }, kinds := [], alts := [], laidByText := true, laidKinds := [.handle], laidTests := true, laidLooks := .later }
def FnExactTermGraphCardSaid : Prop := Claim7.holds Tryd.pinned (.plain (OpenSpec.ofChange fnExactTermGraphSpec)) fnExactTermGraphCard

/-- THE TIED CARD OF 'laws.FnExactTermTidy'. -/
def fnExactTermTidyCard : Claim7 := { stood := { row := fnExactTermTidyRow, standIns := [], harness := (true, "3d3cf58b3081faafe9f35191e0dcebfe6f7bd0c1a736c883d35d8b8705c172fc"), looks := true }, kinds := [], alts := [], laidByText := true, laidKinds := [.handle], laidTests := true, laidLooks := .later }
def FnExactTermTidyCardSaid : Prop := Claim7.holds Tryd.pinned (.plain (OpenSpec.ofChange fnExactTermTidySpec)) fnExactTermTidyCard

/-- THE TIED CARD OF 'laws.FnExactTermSorted'. -/
def fnExactTermSortedCard : Claim7 := { stood := { row := fnExactTermSortedRow, standIns := [], harness := (true, "3d3cf58b3081faafe9f35191e0dcebfe6f7bd0c1a736c883d35d8b8705c172fc"), looks := true }, kinds := [], alts := [], laidByText := true, laidKinds := [.handle], laidTests := true, laidLooks := .later }
def FnExactTermSortedCardSaid : Prop := Claim7.holds Tryd.pinned (.plain (OpenSpec.ofChange fnExactTermSortedSpec)) fnExactTermSortedCard

/-- THE TIED CARD OF 'laws.FnExactTermSame'. -/
def fnExactTermSameCard : Claim7 := { stood := { row := fnExactTermSameRow, standIns := [], harness := (true, "3d3cf58b3081faafe9f35191e0dcebfe6f7bd0c1a736c883d35d8b8705c172fc"), looks := true }, kinds := [], alts := [], laidByText := true, laidKinds := [.handle], laidTests := true, laidLooks := .later }
def FnExactTermSameCardSaid : Prop := Claim7.holds Tryd.pinned (.plain (OpenSpec.ofChange fnExactTermSameSpec)) fnExactTermSameCard

/-- THE TIED CARD OF 'laws.FnExactTermColours'. -/
def fnExactTermColoursCard : Claim7 := { stood := { row := fnExactTermColoursRow, standIns := [], harness := (true, "3d3cf58b3081faafe9f35191e0dcebfe6f7bd0c1a736c883d35d8b8705c172fc"), looks := true }, kinds := [], alts := [], laidByText := true, laidKinds := [.handle], laidTests := true, laidLooks := .later }
def FnExactTermColoursCardSaid : Prop := Claim7.holds Tryd.pinned (.plain (OpenSpec.ofChange fnExactTermColoursSpec)) fnExactTermColoursCard

/-- THE TIED CARD OF 'laws.FnExactTermFull'. -/
def fnExactTermFullCard : Claim7 := { stood := { row := fnExactTermFullRow, standIns := [], harness := (true, "3d3cf58b3081faafe9f35191e0dcebfe6f7bd0c1a736c883d35d8b8705c172fc"), looks := true }, kinds := [], alts := [], laidByText := true, laidKinds := [.handle], laidTests := true, laidLooks := .later }
def FnExactTermFullCardSaid : Prop := Claim7.holds Tryd.pinned (.plain (OpenSpec.ofChange fnExactTermFullSpec)) fnExactTermFullCard

/-- THE SECOND FORM's CARD OF 'laws.FnExactTermIn'. -/
def fnExactTermInUptoCard : Claim7 := { stood := { row := fnExactTermInUptoRow, standIns := [], harness := (true, "3d3cf58b3081faafe9f35191e0dcebfe6f7bd0c1a736c883d35d8b8705c172fc"), looks := true }, kinds := [], alts := [], laidByText := true, laidKinds := [.handle], laidTests := true, laidLooks := .later }
def FnExactTermInUptoCardSaid : Prop := Claim7.holds Tryd.pinned (.plain (OpenSpec.upto fnExactTermInSpec)) fnExactTermInUptoCard

/-- THE SECOND FORM's CARD OF 'laws.FnExactTermGraph'. -/
def fnExactTermGraphUptoCard : Claim7 := { stood := { row := fnExactTermGraphUptoRow, standIns := [], harness := (true, "3d3cf58b3081faafe9f35191e0dcebfe6f7bd0c1a736c883d35d8b8705c172fc"), looks := true }, kinds := [], alts := [], laidByText := true, laidKinds := [.handle], laidTests := true, laidLooks := .later }
def FnExactTermGraphUptoCardSaid : Prop := Claim7.holds Tryd.pinned (.plain (OpenSpec.upto fnExactTermGraphSpec)) fnExactTermGraphUptoCard

/-- THE SECOND FORM's CARD OF 'laws.FnExactTermTidy'. -/
def fnExactTermTidyUptoCard : Claim7 := { stood := { row := fnExactTermTidyUptoRow, standIns := [], harness := (true, "3d3cf58b3081faafe9f35191e0dcebfe6f7bd0c1a736c883d35d8b8705c172fc"), looks := true }, kinds := [], alts := [], laidByText := true, laidKinds := [.handle], laidTests := true, laidLooks := .later }
def FnExactTermTidyUptoCardSaid : Prop := Claim7.holds Tryd.pinned (.plain (OpenSpec.upto fnExactTermTidySpec)) fnExactTermTidyUptoCard

/-- THE SECOND FORM's CARD OF 'laws.FnExactTermSorted'. -/
def fnExactTermSortedUptoCard : Claim7 := { stood := { row := fnExactTermSortedUptoRow, standIns := [], harness := (true, "3d3cf58b3081faafe9f35191e0dcebfe6f7bd0c1a736c883d35d8b8705c172fc"), looks := true }, kinds := [], alts := [], laidByText := true, laidKinds := [.handle], laidTests := true, laidLooks := .later }
def FnExactTermSortedUptoCardSaid : Prop := Claim7.holds Tryd.pinned (.plain (OpenSpec.upto fnExactTermSortedSpec)) fnExactTermSortedUptoCard

/-- THE SECOND FORM's CARD OF 'laws.FnExactTermSame'. -/
def fnExactTermSameUptoCard : Claim7 := { stood := { row := fnExactTermSameUptoRow, standIns := [], harness := (true, "3d3cf58b3081faafe9f35191e0dcebfe6f7bd0c1a736c883d35d8b8705c172fc"), looks := true }, kinds := [], alts := [], laidByText := true, laidKinds := [.handle], laidTests := true, laidLooks := .later }
def FnExactTermSameUptoCardSaid : Prop := Claim7.holds Tryd.pinned (.plain (OpenSpec.upto fnExactTermSameSpec)) fnExactTermSameUptoCard

/-- THE SECOND FORM's CARD OF 'laws.FnExactTermColours'. -/
def fnExactTermColoursUptoCard : Claim7 := { stood := { row := fnExactTermColoursUptoRow, standIns := [], harness := (true, "3d3cf58b3081faafe9f35191e0dcebfe6f7bd0c1a736c883d35d8b8705c172fc"), looks := true }, kinds := [], alts := [], laidByText := true, laidKinds := [.handle], laidTests := true, laidLooks := .later }
def FnExactTermColoursUptoCardSaid : Prop := Claim7.holds Tryd.pinned (.plain (OpenSpec.upto fnExactTermColoursSpec)) fnExactTermColoursUptoCard

/-- THE SECOND FORM's CARD OF 'laws.FnExactTermFull'. -/
def fnExactTermFullUptoCard : Claim7 := { stood := { row := fnExactTermFullUptoRow, standIns := [], harness := (true, "3d3cf58b3081faafe9f35191e0dcebfe6f7bd0c1a736c883d35d8b8705c172fc"), looks := true }, kinds := [], alts := [], laidByText := true, laidKinds := [.handle], laidTests := true, laidLooks := .later }
def FnExactTermFullUptoCardSaid : Prop := Claim7.holds Tryd.pinned (.plain (OpenSpec.upto fnExactTermFullSpec)) fnExactTermFullUptoCard
end Rows
end Go.Proofs.YtkninejoliclcaaDoor
