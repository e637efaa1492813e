/-
  DERIVED. GIVEN WITH THE SEED: THE CARDS: each row of YtdhfnjpjccjkcaaDoorRows.lean that lists a variable, with what it lists TIED to the program's text (the seventh form; the later family's looks); each row that meets fmt, with fmt's text TOLD by the authors' own Lean function (tested against real Go, not proved from fmt's source: count such statements apart). THE CARD IS WHAT COUNTS. Prove the row's statement (the work); the ties are given (YtdhfnjpjccjkcaaDoorTie.lean); close each card by the builder's one call (the guide's Derived/Test/ToyasCard.lean, 'card_holds'). Laid BY PROGRAM, IN A SANDBOX (cutbox-door.mjs). By AI agents, Wed Nov 11 2026. No macro, syntax, notation, axiom, sorry.
-/
import Derived.Test.YtdhfnjpjccjkcaaDoorRows
import GoSem.ClaimSeven
namespace Go.Proofs.YtdhfnjpjccjkcaaDoor
namespace Rows

/-- THE TIED CARD OF 'laws.FnExactAlikeAll'. -/
def fnExactAlikeAllCard : Claim7 := { stood := { row := fnExactAlikeAllRow, standIns := [], harness := (true, "5a02aa6cd759907815fd6588b5171dbda344e1b368abd307cb329222244286e1"), looks := false }, kinds := [], alts := [], laidByText := true, laidKinds := [.data, .data], laidTests := true, laidLooks := .later }
def FnExactAlikeAllCardSaid : Prop := Claim7.holds Tryd.pinned (.plain (OpenSpec.ofChange fnExactAlikeAllSpec)) fnExactAlikeAllCard

/-- THE TIED CARD OF 'laws.FnExactDeckOf'. -/
def fnExactDeckOfCard : Claim7 := { stood := { row := fnExactDeckOfRow, standIns := [], harness := (true, "5a02aa6cd759907815fd6588b5171dbda344e1b368abd307cb329222244286e1"), looks := false }, kinds := [], alts := [], laidByText := true, laidKinds := [.data, .data], laidTests := true, laidLooks := .later }
def FnExactDeckOfCardSaid : Prop := Claim7.holds Tryd.pinned (.plain (OpenSpec.ofChange fnExactDeckOfSpec)) fnExactDeckOfCard

/-- THE TIED CARD OF 'laws.FnExactDeckSame'. -/
def fnExactDeckSameCard : Claim7 := { stood := { row := fnExactDeckSameRow, standIns := [], harness := (true, "5a02aa6cd759907815fd6588b5171dbda344e1b368abd307cb329222244286e1"), looks := false }, kinds := [], alts := [], laidByText := true, laidKinds := [.data, .data], laidTests := true, laidLooks := .later }
def FnExactDeckSameCardSaid : Prop := Claim7.holds Tryd.pinned (.plain (OpenSpec.ofChange fnExactDeckSameSpec)) fnExactDeckSameCard

/-- THE TIED CARD OF 'laws.FnExactDeckBack'. -/
def fnExactDeckBackCard : Claim7 := { stood := { row := fnExactDeckBackRow, standIns := [], harness := (true, "5a02aa6cd759907815fd6588b5171dbda344e1b368abd307cb329222244286e1"), looks := false }, kinds := [], alts := [], laidByText := true, laidKinds := [.data, .data], laidTests := true, laidLooks := .later }
def FnExactDeckBackCardSaid : Prop := Claim7.holds Tryd.pinned (.plain (OpenSpec.ofChange fnExactDeckBackSpec)) fnExactDeckBackCard

/-- THE TIED CARD OF 'laws.FnExactDeckDegrees'. -/
def fnExactDeckDegreesCard : Claim7 := { stood := { row := fnExactDeckDegreesRow, standIns := [], harness := (true, "5a02aa6cd759907815fd6588b5171dbda344e1b368abd307cb329222244286e1"), looks := false }, kinds := [], alts := [], laidByText := true, laidKinds := [.data, .data], laidTests := true, laidLooks := .later }
def FnExactDeckDegreesCardSaid : Prop := Claim7.holds Tryd.pinned (.plain (OpenSpec.ofChange fnExactDeckDegreesSpec)) fnExactDeckDegreesCard

/-- THE TIED CARD OF 'laws.FnExactDeckByEdges'. -/
def fnExactDeckByEdgesCard : Claim7 := { stood := { row := fnExactDeckByEdgesRow, standIns := [], harness := (true, "5a02aa6cd759907815fd6588b5171dbda344e1b368abd307cb329222244286e1"), looks := false }, kinds := [], alts := [], laidByText := true, laidKinds := [.data, .data], laidTests := true, laidLooks := .later }
def FnExactDeckByEdgesCardSaid : Prop := Claim7.holds Tryd.pinned (.plain (OpenSpec.ofChange fnExactDeckByEdgesSpec)) fnExactDeckByEdgesCard

/-- THE TIED CARD OF 'laws.FnDeck'. -/
def fnDeckCard : Claim7 := { stood := { row := fnDeckRow, standIns := [], harness := (true, "5a02aa6cd759907815fd6588b5171dbda344e1b368abd307cb329222244286e1"), looks := false }, kinds := [], alts := [], laidByText := true, laidKinds := [.data, .data], laidTests := true, laidLooks := .later }
def FnDeckCardSaid : Prop := Claim7.holds Tryd.pinned (.plain (OpenSpec.ofChange fnDeckSpec)) fnDeckCard

/-- THE SECOND FORM's CARD OF 'laws.FnExactAlikeAll'. -/
def fnExactAlikeAllUptoCard : Claim7 := { stood := { row := fnExactAlikeAllUptoRow, standIns := [], harness := (true, "5a02aa6cd759907815fd6588b5171dbda344e1b368abd307cb329222244286e1"), looks := false }, kinds := [], alts := [], laidByText := true, laidKinds := [.data, .data], laidTests := true, laidLooks := .later }
def FnExactAlikeAllUptoCardSaid : Prop := Claim7.holds Tryd.pinned (.plain (OpenSpec.upto fnExactAlikeAllSpec)) fnExactAlikeAllUptoCard

/-- THE SECOND FORM's CARD OF 'laws.FnExactDeckOf'. -/
def fnExactDeckOfUptoCard : Claim7 := { stood := { row := fnExactDeckOfUptoRow, standIns := [], harness := (true, "5a02aa6cd759907815fd6588b5171dbda344e1b368abd307cb329222244286e1"), looks := false }, kinds := [], alts := [], laidByText := true, laidKinds := [.data, .data], laidTests := true, laidLooks := .later }
def FnExactDeckOfUptoCardSaid : Prop := Claim7.holds Tryd.pinned (.plain (OpenSpec.upto fnExactDeckOfSpec)) fnExactDeckOfUptoCard

/-- THE SECOND FORM's CARD OF 'laws.FnExactDeckSame'. -/
def fnExactDeckSameUptoCard : Claim7 := { stood := { row := fnExactDeckSameUptoRow, standIns := [], harness := (true, "5a02aa6cd759907815fd6588b5171dbda344e1b368abd307cb329222244286e1"), looks := false }, kinds := [], alts := [], laidByText := true, laidKinds := [.data, .data], laidTests := true, laidLooks := .later }
def FnExactDeckSameUptoCardSaid : Prop := Claim7.holds Tryd.pinned (.plain (OpenSpec.upto fnExactDeckSameSpec)) fnExactDeckSameUptoCard

/-- THE SECOND FORM's CARD OF 'laws.FnExactDeckBack'. -/
def fnExactDeckBackUptoCard : Claim7 := { stood := { row := fnExactDeckBackUptoRow, standIns := [], harness := (true, "5a02aa6cd759907815fd6588b5171dbda344e1b368abd307cb329222244286e1"), looks := false }, kinds := [], alts := [], laidByText := true, laidKinds := [.data, .data], laidTests := true, laidLooks := .later }
def FnExactDeckBackUptoCardSaid : Prop := Claim7.holds Tryd.pinned (.plain (OpenSpec.upto fnExactDeckBackSpec)) fnExactDeckBackUptoCard

/-- THE SECOND FORM's CARD OF 'laws.FnExactDeckDegrees'. -/
def fnExactDeckDegreesUptoCard : Claim7 := { stood := { row := fnExactDeckDegreesUptoRow, standIns := [], harness := (true, "5a02aa6cd759907815fd6588b5171dbda344e1b368abd307cb329222244286e1"), looks := false }, kinds := [], alts := [], laidByText := true, laidKinds := [.data, .data], laidTests := true, laidLooks := .later }
def FnExactDeckDegreesUptoCardSaid : Prop := Claim7.holds Tryd.pinned (.plain (OpenSpec.upto fnExactDeckDegreesSpec)) fnExactDeckDegreesUptoCard

/-- THE SECOND FORM's CARD OF 'laws.FnExactDeckByEdges'. -/
def fnExactDeckByEdgesUptoCard : Claim7 := { stood := { row := fnExactDeckByEdgesUptoRow, standIns := [], harness := (true, "5a02aa6cd759907815fd6588b5171dbda344e1b368abd307cb329222244286e1"), looks := false }, kinds := [], alts := [], laidByText := true, laidKinds := [.data, .data], laidTests := true, laidLooks := .later }
def FnExactDeckByEdgesUptoCardSaid : Prop := Claim7.holds Tryd.pinned (.plain (OpenSpec.upto fnExactDeckByEdgesSpec)) fnExactDeckByEdgesUptoCard

/-- THE SECOND FORM's CARD OF 'laws.FnDeck'. -/
def fnDeckUptoCard : Claim7 := { stood := { row := fnDeckUptoRow, standIns := [], harness := (true, "5a02aa6cd759907815fd6588b5171dbda344e1b368abd307cb329222244286e1"), looks := false }, kinds := [], alts := [], laidByText := true, laidKinds := [.data, .data], laidTests := true, laidLooks := .later }
def FnDeckUptoCardSaid : Prop := Claim7.holds Tryd.pinned (.plain (OpenSpec.upto fnDeckSpec)) fnDeckUptoCard
end Rows
end Go.Proofs.YtdhfnjpjccjkcaaDoor
