/-
  DERIVED. GIVEN WITH THE SEED: THE CARDS: each row of YtfgpjgaigfbfcaaDoorRows.lean that lists a variable, with what it lists TIED to the program's text (the seventh form; the later family's looks); each row that meets fmt, with fmt's text TOLD by the authors' own Lean function (tested against real Go, not proved from fmt's source: count such statements apart). THE CARD IS WHAT COUNTS. Prove the row's statement (the work); the ties are given (YtfgpjgaigfbfcaaDoorTie.lean); close each card by the builder's one call (the guide's Derived/Test/ToyasCard.lean, 'card_holds'). Laid BY PROGRAM, IN A SANDBOX (cutbox-door.mjs). By AI agents, Wed Nov 11 2026. No macro, syntax, notation, axiom, sorry.
-/
import Derived.Test.YtfgpjgaigfbfcaaDoorRows
import GoSem.ClaimSeven
namespace Go.Proofs.YtfgpjgaigfbfcaaDoor
namespace Rows

/-- THE TIED CARD OF 'laws.FnExactGraphIn'. -/
def fnExactGraphInCard : Claim7 := { stood := { row := fnExactGraphInRow, standIns := [], harness := (true, "49aff3a460f2e321f997e90da08c7cc70468df1954f77227ae7394bc7dbb6b74"), looks := false }, kinds := [], alts := [], laidByText := true, laidKinds := [.data, .data], laidTests := true, laidLooks := .later }
def FnExactGraphInCardSaid : Prop := Claim7.holds Tryd.pinned (.plain (OpenSpec.ofChange fnExactGraphInSpec)) fnExactGraphInCard

/-- THE TIED CARD OF 'laws.FnExactGraphCode'. -/
def fnExactGraphCodeCard : Claim7 := { stood := { row := fnExactGraphCodeRow, standIns := [], harness := (true, "49aff3a460f2e321f997e90da08c7cc70468df1954f77227ae7394bc7dbb6b74"), looks := false }, kinds := [], alts := [], laidByText := true, laidKinds := [.data, .data], laidTests := true, laidLooks := .later }
def FnExactGraphCodeCardSaid : Prop := Claim7.holds Tryd.pinned (.plain (OpenSpec.ofChange fnExactGraphCodeSpec)) fnExactGraphCodeCard

/-- THE TIED CARD OF 'laws.FnExactGraphEdges'. -/
def fnExactGraphEdgesCard : Claim7 := { stood := { row := fnExactGraphEdgesRow, standIns := [], harness := (true, "49aff3a460f2e321f997e90da08c7cc70468df1954f77227ae7394bc7dbb6b74"), looks := false }, kinds := [], alts := [], laidByText := true, laidKinds := [.data, .data], laidTests := true, laidLooks := .later }
def FnExactGraphEdgesCardSaid : Prop := Claim7.holds Tryd.pinned (.plain (OpenSpec.ofChange fnExactGraphEdgesSpec)) fnExactGraphEdgesCard

/-- THE TIED CARD OF 'laws.FnExactGraphDegrees'. -/
def fnExactGraphDegreesCard : Claim7 := { stood := { row := fnExactGraphDegreesRow, standIns := [], harness := (true, "49aff3a460f2e321f997e90da08c7cc70468df1954f77227ae7394bc7dbb6b74"), looks := false }, kinds := [], alts := [], laidByText := true, laidKinds := [.data, .data], laidTests := true, laidLooks := .later }
def FnExactGraphDegreesCardSaid : Prop := Claim7.holds Tryd.pinned (.plain (OpenSpec.ofChange fnExactGraphDegreesSpec)) fnExactGraphDegreesCard

/-- THE TIED CARD OF 'laws.FnExactGraphOther'. -/
def fnExactGraphOtherCard : Claim7 := { stood := { row := fnExactGraphOtherRow, standIns := [], harness := (true, "49aff3a460f2e321f997e90da08c7cc70468df1954f77227ae7394bc7dbb6b74"), looks := false }, kinds := [], alts := [], laidByText := true, laidKinds := [.data, .data], laidTests := true, laidLooks := .later }
def FnExactGraphOtherCardSaid : Prop := Claim7.holds Tryd.pinned (.plain (OpenSpec.ofChange fnExactGraphOtherSpec)) fnExactGraphOtherCard

/-- THE TIED CARD OF 'laws.FnExactGraphNamed'. -/
def fnExactGraphNamedCard : Claim7 := { stood := { row := fnExactGraphNamedRow, standIns := [], harness := (true, "49aff3a460f2e321f997e90da08c7cc70468df1954f77227ae7394bc7dbb6b74"), looks := false }, kinds := [], alts := [], laidByText := true, laidKinds := [.data, .data], laidTests := true, laidLooks := .later }
def FnExactGraphNamedCardSaid : Prop := Claim7.holds Tryd.pinned (.plain (OpenSpec.ofChange fnExactGraphNamedSpec)) fnExactGraphNamedCard

/-- THE TIED CARD OF 'laws.FnExactGraphDrop'. -/
def fnExactGraphDropCard : Claim7 := { stood := { row := fnExactGraphDropRow, standIns := [], harness := (true, "49aff3a460f2e321f997e90da08c7cc70468df1954f77227ae7394bc7dbb6b74"), looks := false }, kinds := [], alts := [], laidByText := true, laidKinds := [.data, .data], laidTests := true, laidLooks := .later }
def FnExactGraphDropCardSaid : Prop := Claim7.holds Tryd.pinned (.plain (OpenSpec.ofChange fnExactGraphDropSpec)) fnExactGraphDropCard

/-- THE TIED CARD OF 'laws.FnExactGraphPart'. -/
def fnExactGraphPartCard : Claim7 := { stood := { row := fnExactGraphPartRow, standIns := [], harness := (true, "49aff3a460f2e321f997e90da08c7cc70468df1954f77227ae7394bc7dbb6b74"), looks := false }, kinds := [], alts := [], laidByText := true, laidKinds := [.data, .data], laidTests := true, laidLooks := .later }
def FnExactGraphPartCardSaid : Prop := Claim7.holds Tryd.pinned (.plain (OpenSpec.ofChange fnExactGraphPartSpec)) fnExactGraphPartCard

/-- THE TIED CARD OF 'laws.FnExactGraphJoin'. -/
def fnExactGraphJoinCard : Claim7 := { stood := { row := fnExactGraphJoinRow, standIns := [], harness := (true, "49aff3a460f2e321f997e90da08c7cc70468df1954f77227ae7394bc7dbb6b74"), looks := false }, kinds := [], alts := [], laidByText := true, laidKinds := [.data, .data], laidTests := true, laidLooks := .later }
def FnExactGraphJoinCardSaid : Prop := Claim7.holds Tryd.pinned (.plain (OpenSpec.ofChange fnExactGraphJoinSpec)) fnExactGraphJoinCard

/-- THE TIED CARD OF 'laws.FnExactGraphLinked'. -/
def fnExactGraphLinkedCard : Claim7 := { stood := { row := fnExactGraphLinkedRow, standIns := [], harness := (true, "49aff3a460f2e321f997e90da08c7cc70468df1954f77227ae7394bc7dbb6b74"), looks := false }, kinds := [], alts := [], laidByText := true, laidKinds := [.data, .data], laidTests := true, laidLooks := .later }
def FnExactGraphLinkedCardSaid : Prop := Claim7.holds Tryd.pinned (.plain (OpenSpec.ofChange fnExactGraphLinkedSpec)) fnExactGraphLinkedCard

/-- THE TIED CARD OF 'laws.FnExactAlikeIn'. -/
def fnExactAlikeInCard : Claim7 := { stood := { row := fnExactAlikeInRow, standIns := [], harness := (true, "49aff3a460f2e321f997e90da08c7cc70468df1954f77227ae7394bc7dbb6b74"), looks := false }, kinds := [], alts := [], laidByText := true, laidKinds := [.data, .data], laidTests := true, laidLooks := .later }
def FnExactAlikeInCardSaid : Prop := Claim7.holds Tryd.pinned (.plain (OpenSpec.ofChange fnExactAlikeInSpec)) fnExactAlikeInCard

/-- THE SECOND FORM's CARD OF 'laws.FnExactGraphIn'. -/
def fnExactGraphInUptoCard : Claim7 := { stood := { row := fnExactGraphInUptoRow, standIns := [], harness := (true, "49aff3a460f2e321f997e90da08c7cc70468df1954f77227ae7394bc7dbb6b74"), looks := false }, kinds := [], alts := [], laidByText := true, laidKinds := [.data, .data], laidTests := true, laidLooks := .later }
def FnExactGraphInUptoCardSaid : Prop := Claim7.holds Tryd.pinned (.plain (OpenSpec.upto fnExactGraphInSpec)) fnExactGraphInUptoCard

/-- THE SECOND FORM's CARD OF 'laws.FnExactGraphCode'. -/
def fnExactGraphCodeUptoCard : Claim7 := { stood := { row := fnExactGraphCodeUptoRow, standIns := [], harness := (true, "49aff3a460f2e321f997e90da08c7cc70468df1954f77227ae7394bc7dbb6b74"), looks := false }, kinds := [], alts := [], laidByText := true, laidKinds := [.data, .data], laidTests := true, laidLooks := .later }
def FnExactGraphCodeUptoCardSaid : Prop := Claim7.holds Tryd.pinned (.plain (OpenSpec.upto fnExactGraphCodeSpec)) fnExactGraphCodeUptoCard

/-- THE SECOND FORM's CARD OF 'laws.FnExactGraphEdges'. -/
def fnExactGraphEdgesUptoCard : Claim7 := { stood := { row := fnExactGraphEdgesUptoRow, standIns := [], harness := (true, "49aff3a460f2e321f997e90da08c7cc70468df1954f77227ae7394bc7dbb6b74"), looks := false }, kinds := [], alts := [], laidByText := true, laidKinds := [.data, .data], laidTests := true, laidLooks := .later }
def FnExactGraphEdgesUptoCardSaid : Prop := Claim7.holds Tryd.pinned (.plain (OpenSpec.upto fnExactGraphEdgesSpec)) fnExactGraphEdgesUptoCard

/-- THE SECOND FORM's CARD OF 'laws.FnExactGraphDegrees'. -/
def fnExactGraphDegreesUptoCard : Claim7 := { stood := { row := fnExactGraphDegreesUptoRow, standIns := [], harness := (true, "49aff3a460f2e321f997e90da08c7cc70468df1954f77227ae7394bc7dbb6b74"), looks := false }, kinds := [], alts := [], laidByText := true, laidKinds := [.data, .data], laidTests := true, laidLooks := .later }
def FnExactGraphDegreesUptoCardSaid : Prop := Claim7.holds Tryd.pinned (.plain (OpenSpec.upto fnExactGraphDegreesSpec)) fnExactGraphDegreesUptoCard

/-- THE SECOND FORM's CARD OF 'laws.FnExactGraphOther'. -/
def fnExactGraphOtherUptoCard : Claim7 := { stood := { row := fnExactGraphOtherUptoRow, standIns := [], harness := (true, "49aff3a460f2e321f997e90da08c7cc70468df1954f77227ae7394bc7dbb6b74"), looks := false }, kinds := [], alts := [], laidByText := true, laidKinds := [.data, .data], laidTests := true, laidLooks := .later }
def FnExactGraphOtherUptoCardSaid : Prop := Claim7.holds Tryd.pinned (.plain (OpenSpec.upto fnExactGraphOtherSpec)) fnExactGraphOtherUptoCard

/-- THE SECOND FORM's CARD OF 'laws.FnExactGraphNamed'. -/
def fnExactGraphNamedUptoCard : Claim7 := { stood := { row := fnExactGraphNamedUptoRow, standIns := [], harness := (true, "49aff3a460f2e321f997e90da08c7cc70468df1954f77227ae7394bc7dbb6b74"), looks := false }, kinds := [], alts := [], laidByText := true, laidKinds := [.data, .data], laidTests := true, laidLooks := .later }
def FnExactGraphNamedUptoCardSaid : Prop := Claim7.holds Tryd.pinned (.plain (OpenSpec.upto fnExactGraphNamedSpec)) fnExactGraphNamedUptoCard

/-- THE SECOND FORM's CARD OF 'laws.FnExactGraphDrop'. -/
def fnExactGraphDropUptoCard : Claim7 := { stood := { row := fnExactGraphDropUptoRow, standIns := [], harness := (true, "49aff3a460f2e321f997e90da08c7cc70468df1954f77227ae7394bc7dbb6b74"), looks := false }, kinds := [], alts := [], laidByText := true, laidKinds := [.data, .data], laidTests := true, laidLooks := .later }
def FnExactGraphDropUptoCardSaid : Prop := Claim7.holds Tryd.pinned (.plain (OpenSpec.upto fnExactGraphDropSpec)) fnExactGraphDropUptoCard

/-- THE SECOND FORM's CARD OF 'laws.FnExactGraphPart'. -/
def fnExactGraphPartUptoCard : Claim7 := { stood := { row := fnExactGraphPartUptoRow, standIns := [], harness := (true, "49aff3a460f2e321f997e90da08c7cc70468df1954f77227ae7394bc7dbb6b74"), looks := false }, kinds := [], alts := [], laidByText := true, laidKinds := [.data, .data], laidTests := true, laidLooks := .later }
def FnExactGraphPartUptoCardSaid : Prop := Claim7.holds Tryd.pinned (.plain (OpenSpec.upto fnExactGraphPartSpec)) fnExactGraphPartUptoCard

/-- THE SECOND FORM's CARD OF 'laws.FnExactGraphJoin'. -/
def fnExactGraphJoinUptoCard : Claim7 := { stood := { row := fnExactGraphJoinUptoRow, standIns := [], harness := (true, "49aff3a460f2e321f997e90da08c7cc70468df1954f77227ae7394bc7dbb6b74"), looks := false }, kinds := [], alts := [], laidByText := true, laidKinds := [.data, .data], laidTests := true, laidLooks := .later }
def FnExactGraphJoinUptoCardSaid : Prop := Claim7.holds Tryd.pinned (.plain (OpenSpec.upto fnExactGraphJoinSpec)) fnExactGraphJoinUptoCard

/-- THE SECOND FORM's CARD OF 'laws.FnExactGraphLinked'. -/
def fnExactGraphLinkedUptoCard : Claim7 := { stood := { row := fnExactGraphLinkedUptoRow, standIns := [], harness := (true, "49aff3a460f2e321f997e90da08c7cc70468df1954f77227ae7394bc7dbb6b74"), looks := false }, kinds := [], alts := [], laidByText := true, laidKinds := [.data, .data], laidTests := true, laidLooks := .later }
def FnExactGraphLinkedUptoCardSaid : Prop := Claim7.holds Tryd.pinned (.plain (OpenSpec.upto fnExactGraphLinkedSpec)) fnExactGraphLinkedUptoCard

/-- THE SECOND FORM's CARD OF 'laws.FnExactAlikeIn'. -/
def fnExactAlikeInUptoCard : Claim7 := { stood := { row := fnExactAlikeInUptoRow, standIns := [], harness := (true, "49aff3a460f2e321f997e90da08c7cc70468df1954f77227ae7394bc7dbb6b74"), looks := false }, kinds := [], alts := [], laidByText := true, laidKinds := [.data, .data], laidTests := true, laidLooks := .later }
def FnExactAlikeInUptoCardSaid : Prop := Claim7.holds Tryd.pinned (.plain (OpenSpec.upto fnExactAlikeInSpec)) fnExactAlikeInUptoCard
end Rows
end Go.Proofs.YtfgpjgaigfbfcaaDoor
