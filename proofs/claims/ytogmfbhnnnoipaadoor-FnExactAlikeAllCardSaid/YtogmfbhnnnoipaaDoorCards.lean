/-
  DERIVED. GIVEN WITH THE SEED: THE CARDS: each row of YtogmfbhnnnoipaaDoorRows.lean that lists a variable, with what it lists TIED to the program's text (the seventh form; the later family's looks); each row that meets fmt, with fmt's text TOLD by the authors' own Lean function (tested against real Go, not proved from fmt's source: count such statements apart). THE CARD IS WHAT COUNTS. Prove the row's statement (the work); the ties are given (YtogmfbhnnnoipaaDoorTie.lean); close each card by the builder's one call (the guide's Derived/Test/ToyasCard.lean, 'card_holds'). Laid BY PROGRAM, IN A SANDBOX (cutbox-door.mjs). By AI agents, Wed Nov 11 2026. No macro, syntax, notation, axiom, sorry.
-/
import Derived.Test.YtogmfbhnnnoipaaDoorRows
import GoSem.ClaimSeven
namespace Go.Proofs.YtogmfbhnnnoipaaDoor
namespace Rows

/-- THE TIED CARD OF 'laws.FnExactNumberWalks'. -/
def fnExactNumberWalksCard : Claim7 := { stood := { row := fnExactNumberWalksRow, standIns := [], harness := (true, "4225e6280bd3e12d084f04ee34b570435424ce0c47db5371fddf58286535f90e"), looks := false }, kinds := [], alts := [], laidByText := true, laidKinds := [.data, .data], laidTests := true, laidLooks := .later }
def FnExactNumberWalksCardSaid : Prop := Claim7.holds Tryd.pinned (.plain (OpenSpec.ofChange fnExactNumberWalksSpec)) fnExactNumberWalksCard

/-- THE TIED CARD OF 'laws.FnExactNumberClosed'. -/
def fnExactNumberClosedCard : Claim7 := { stood := { row := fnExactNumberClosedRow, standIns := [], harness := (true, "4225e6280bd3e12d084f04ee34b570435424ce0c47db5371fddf58286535f90e"), looks := false }, kinds := [], alts := [], laidByText := true, laidKinds := [.data, .data], laidTests := true, laidLooks := .later }
def FnExactNumberClosedCardSaid : Prop := Claim7.holds Tryd.pinned (.plain (OpenSpec.ofChange fnExactNumberClosedSpec)) fnExactNumberClosedCard

/-- THE TIED CARD OF 'laws.FnExactNumberPoly'. -/
def fnExactNumberPolyCard : Claim7 := { stood := { row := fnExactNumberPolyRow, standIns := [], harness := (true, "4225e6280bd3e12d084f04ee34b570435424ce0c47db5371fddf58286535f90e"), looks := false }, kinds := [], alts := [], laidByText := true, laidKinds := [.data, .data], laidTests := true, laidLooks := .later }
def FnExactNumberPolyCardSaid : Prop := Claim7.holds Tryd.pinned (.plain (OpenSpec.ofChange fnExactNumberPolySpec)) fnExactNumberPolyCard

/-- THE TIED CARD OF 'laws.FnExactNumberTrees'. -/
def fnExactNumberTreesCard : Claim7 := { stood := { row := fnExactNumberTreesRow, standIns := [], harness := (true, "4225e6280bd3e12d084f04ee34b570435424ce0c47db5371fddf58286535f90e"), looks := false }, kinds := [], alts := [], laidByText := true, laidKinds := [.data, .data], laidTests := true, laidLooks := .later }
def FnExactNumberTreesCardSaid : Prop := Claim7.holds Tryd.pinned (.plain (OpenSpec.ofChange fnExactNumberTreesSpec)) fnExactNumberTreesCard

/-- THE TIED CARD OF 'laws.FnExactNumberThree'. -/
def fnExactNumberThreeCard : Claim7 := { stood := { row := fnExactNumberThreeRow, standIns := [], harness := (true, "4225e6280bd3e12d084f04ee34b570435424ce0c47db5371fddf58286535f90e"), looks := false }, kinds := [], alts := [], laidByText := true, laidKinds := [.data, .data], laidTests := true, laidLooks := .later }
def FnExactNumberThreeCardSaid : Prop := Claim7.holds Tryd.pinned (.plain (OpenSpec.ofChange fnExactNumberThreeSpec)) fnExactNumberThreeCard

/-- THE TIED CARD OF 'laws.FnExactNumberDegrees'. -/
def fnExactNumberDegreesCard : Claim7 := { stood := { row := fnExactNumberDegreesRow, standIns := [], harness := (true, "4225e6280bd3e12d084f04ee34b570435424ce0c47db5371fddf58286535f90e"), looks := false }, kinds := [], alts := [], laidByText := true, laidKinds := [.data, .data], laidTests := true, laidLooks := .later }
def FnExactNumberDegreesCardSaid : Prop := Claim7.holds Tryd.pinned (.plain (OpenSpec.ofChange fnExactNumberDegreesSpec)) fnExactNumberDegreesCard

/-- THE TIED CARD OF 'laws.FnExactNumberSame'. -/
def fnExactNumberSameCard : Claim7 := { stood := { row := fnExactNumberSameRow, standIns := [], harness := (true, "4225e6280bd3e12d084f04ee34b570435424ce0c47db5371fddf58286535f90e"), looks := false }, kinds := [], alts := [], laidByText := true, laidKinds := [.data, .data], laidTests := true, laidLooks := .later }
def FnExactNumberSameCardSaid : Prop := Claim7.holds Tryd.pinned (.plain (OpenSpec.ofChange fnExactNumberSameSpec)) fnExactNumberSameCard

/-- THE TIED CARD OF 'laws.FnExactDeckBack'. -/
def fnExactDeckBackCard : Claim7 := { stood := { row := fnExactDeckBackRow, standIns := [], harness := (true, "4225e6280bd3e12d084f04ee34b570435424ce0c47db5371fddf58286535f90e"), looks := false }, kinds := [], alts := [], laidByText := true, laidKinds := [.data, .data], laidTests := true, laidLooks := .later }
def FnExactDeckBackCardSaid : Prop := Claim7.holds Tryd.pinned (.plain (OpenSpec.ofChange fnExactDeckBackSpec)) fnExactDeckBackCard

/-- THE TIED CARD OF 'laws.FnExactAlikeAll'. -/
def fnExactAlikeAllCard : Claim7 := { stood := { row := fnExactAlikeAllRow, standIns := [], harness := (true, "4225e6280bd3e12d084f04ee34b570435424ce0c47db5371fddf58286535f90e"), looks := false }, kinds := [], alts := [], laidByText := true, laidKinds := [.data, .data], laidTests := true, laidLooks := .later }
def FnExactAlikeAllCardSaid : Prop := Claim7.holds Tryd.pinned (.plain (OpenSpec.ofChange fnExactAlikeAllSpec)) fnExactAlikeAllCard

/-- THE TIED CARD OF 'laws.FnDeck'. -/
def fnDeckCard : Claim7 := { stood := { row := fnDeckRow, standIns := [], harness := (true, "4225e6280bd3e12d084f04ee34b570435424ce0c47db5371fddf58286535f90e"), looks := false }, kinds := [], alts := [], laidByText := true, laidKinds := [.data, .data], laidTests := true, laidLooks := .later }
def FnDeckCardSaid : Prop := Claim7.holds Tryd.pinned (.plain (OpenSpec.ofChange fnDeckSpec)) fnDeckCard

/-- THE SECOND FORM's CARD OF 'laws.FnExactNumberWalks'. -/
def fnExactNumberWalksUptoCard : Claim7 := { stood := { row := fnExactNumberWalksUptoRow, standIns := [], harness := (true, "4225e6280bd3e12d084f04ee34b570435424ce0c47db5371fddf58286535f90e"), looks := false }, kinds := [], alts := [], laidByText := true, laidKinds := [.data, .data], laidTests := true, laidLooks := .later }
def FnExactNumberWalksUptoCardSaid : Prop := Claim7.holds Tryd.pinned (.plain (OpenSpec.upto fnExactNumberWalksSpec)) fnExactNumberWalksUptoCard

/-- THE SECOND FORM's CARD OF 'laws.FnExactNumberClosed'. -/
def fnExactNumberClosedUptoCard : Claim7 := { stood := { row := fnExactNumberClosedUptoRow, standIns := [], harness := (true, "4225e6280bd3e12d084f04ee34b570435424ce0c47db5371fddf58286535f90e"), looks := false }, kinds := [], alts := [], laidByText := true, laidKinds := [.data, .data], laidTests := true, laidLooks := .later }
def FnExactNumberClosedUptoCardSaid : Prop := Claim7.holds Tryd.pinned (.plain (OpenSpec.upto fnExactNumberClosedSpec)) fnExactNumberClosedUptoCard

/-- THE SECOND FORM's CARD OF 'laws.FnExactNumberPoly'. -/
def fnExactNumberPolyUptoCard : Claim7 := { stood := { row := fnExactNumberPolyUptoRow, standIns := [], harness := (true, "4225e6280bd3e12d084f04ee34b570435424ce0c47db5371fddf58286535f90e"), looks := false }, kinds := [], alts := [], laidByText := true, laidKinds := [.data, .data], laidTests := true, laidLooks := .later }
def FnExactNumberPolyUptoCardSaid : Prop := Claim7.holds Tryd.pinned (.plain (OpenSpec.upto fnExactNumberPolySpec)) fnExactNumberPolyUptoCard

/-- THE SECOND FORM's CARD OF 'laws.FnExactNumberTrees'. -/
def fnExactNumberTreesUptoCard : Claim7 := { stood := { row := fnExactNumberTreesUptoRow, standIns := [], harness := (true, "4225e6280bd3e12d084f04ee34b570435424ce0c47db5371fddf58286535f90e"), looks := false }, kinds := [], alts := [], laidByText := true, laidKinds := [.data, .data], laidTests := true, laidLooks := .later }
def FnExactNumberTreesUptoCardSaid : Prop := Claim7.holds Tryd.pinned (.plain (OpenSpec.upto fnExactNumberTreesSpec)) fnExactNumberTreesUptoCard

/-- THE SECOND FORM's CARD OF 'laws.FnExactNumberThree'. -/
def fnExactNumberThreeUptoCard : Claim7 := { stood := { row := fnExactNumberThreeUptoRow, standIns := [], harness := (true, "4225e6280bd3e12d084f04ee34b570435424ce0c47db5371fddf58286535f90e"), looks := false }, kinds := [], alts := [], laidByText := true, laidKinds := [.data, .data], laidTests := true, laidLooks := .later }
def FnExactNumberThreeUptoCardSaid : Prop := Claim7.holds Tryd.pinned (.plain (OpenSpec.upto fnExactNumberThreeSpec)) fnExactNumberThreeUptoCard

/-- THE SECOND FORM's CARD OF 'laws.FnExactNumberDegrees'. -/
def fnExactNumberDegreesUptoCard : Claim7 := { stood := { row := fnExactNumberDegreesUptoRow, standIns := [], harness := (true, "4225e6280bd3e12d084f04ee34b570435424ce0c47db5371fddf58286535f90e"), looks := false }, kinds := [], alts := [], laidByText := true, laidKinds := [.data, .data], laidTests := true, laidLooks := .later }
def FnExactNumberDegreesUptoCardSaid : Prop := Claim7.holds Tryd.pinned (.plain (OpenSpec.upto fnExactNumberDegreesSpec)) fnExactNumberDegreesUptoCard

/-- THE SECOND FORM's CARD OF 'laws.FnExactNumberSame'. -/
def fnExactNumberSameUptoCard : Claim7 := { stood := { row := fnExactNumberSameUptoRow, standIns := [], harness := (true, "4225e6280bd3e12d084f04ee34b570435424ce0c47db5371fddf58286535f90e"), looks := false }, kinds := [], alts := [], laidByText := true, laidKinds := [.data, .data], laidTests := true, laidLooks := .later }
def FnExactNumberSameUptoCardSaid : Prop := Claim7.holds Tryd.pinned (.plain (OpenSpec.upto fnExactNumberSameSpec)) fnExactNumberSameUptoCard

/-- THE SECOND FORM's CARD OF 'laws.FnExactDeckBack'. -/
def fnExactDeckBackUptoCard : Claim7 := { stood := { row := fnExactDeckBackUptoRow, standIns := [], harness := (true, "4225e6280bd3e12d084f04ee34b570435424ce0c47db5371fddf58286535f90e"), looks := false }, kinds := [], alts := [], laidByText := true, laidKinds := [.data, .data], laidTests := true, laidLooks := .later }
def FnExactDeckBackUptoCardSaid : Prop := Claim7.holds Tryd.pinned (.plain (OpenSpec.upto fnExactDeckBackSpec)) fnExactDeckBackUptoCard

/-- THE SECOND FORM's CARD OF 'laws.FnExactAlikeAll'. -/
def fnExactAlikeAllUptoCard : Claim7 := { stood := { row := fnExactAlikeAllUptoRow, standIns := [], harness := (true, "4225e6280bd3e12d084f04ee34b570435424ce0c47db5371fddf58286535f90e"), looks := false }, kinds := [], alts := [], laidByText := true, laidKinds := [.data, .data], laidTests := true, laidLooks := .later }
def FnExactAlikeAllUptoCardSaid : Prop := Claim7.holds Tryd.pinned (.plain (OpenSpec.upto fnExactAlikeAllSpec)) fnExactAlikeAllUptoCard

/-- THE SECOND FORM's CARD OF 'laws.FnDeck'. -/
def fnDeckUptoCard : Claim7 := { stood := { row := fnDeckUptoRow, standIns := [], harness := (true, "4225e6280bd3e12d084f04ee34b570435424ce0c47db5371fddf58286535f90e"), looks := false }, kinds := [], alts := [], laidByText := true, laidKinds := [.data, .data], laidTests := true, laidLooks := .later }
def FnDeckUptoCardSaid : Prop := Claim7.holds Tryd.pinned (.plain (OpenSpec.upto fnDeckSpec)) fnDeckUptoCard
end Rows
end Go.Proofs.YtogmfbhnnnoipaaDoor
