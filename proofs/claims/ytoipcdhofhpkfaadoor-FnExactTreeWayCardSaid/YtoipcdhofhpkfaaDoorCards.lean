/-
  DERIVED. GIVEN WITH THE SEED: THE CARDS: each row of YtoipcdhofhpkfaaDoorRows.lean that lists a variable, with what it lists TIED to the program's text (the seventh form; the later family's looks); each row that meets fmt, with fmt's text TOLD by the authors' own Lean function (tested against real Go, not proved from fmt's source: count such statements apart). THE CARD IS WHAT COUNTS. Prove the row's statement (the work); the ties are given (YtoipcdhofhpkfaaDoorTie.lean); close each card by the builder's one call (the guide's Derived/Test/ToyasCard.lean, 'card_holds'). Laid BY PROGRAM, IN A SANDBOX (cutbox-door.mjs). By AI agents, Wed Nov 11 2026. No macro, syntax, notation, axiom, sorry.
-/
import Derived.Test.YtoipcdhofhpkfaaDoorRows
import GoSem.ClaimSeven
namespace Go.Proofs.YtoipcdhofhpkfaaDoor
namespace Rows

/-- THE TIED CARD OF 'laws.FnMiddle'. -/
def fnMiddleCard : Claim7 := { stood := { row := fnMiddleRow, standIns := [], harness := (true, "ad3454511d3064c2f8f04e499dcbd063323c97a19ba7c1344f999397ef2dda83"), looks := true }, kinds := [], alts := [], laidByText := true, laidKinds := [.data, .data], laidTests := true, laidLooks := .later }
def FnMiddleCardSaid : Prop := Claim7.holds Tryd.pinned (.plain (OpenSpec.ofChange fnMiddleSpec)) fnMiddleCard

/-- THE TIED CARD OF 'laws.FnExactTreeIn'. -/
def fnExactTreeInCard : Claim7 := { stood := { row := fnExactTreeInRow, standIns := [], harness := (true, "ad3454511d3064c2f8f04e499dcbd063323c97a19ba7c1344f999397ef2dda83"), looks := true }, kinds := [], alts := [], laidByText := true, laidKinds := [.data, .data], laidTests := true, laidLooks := .later }
def FnExactTreeInCardSaid : Prop := Claim7.holds Tryd.pinned (.plain (OpenSpec.ofChange fnExactTreeInSpec)) fnExactTreeInCard

/-- THE TIED CARD OF 'laws.FnExactTreeLetters'. -/
def fnExactTreeLettersCard : Claim7 := { stood := { row := fnExactTreeLettersRow, standIns := [], harness := (true, "ad3454511d3064c2f8f04e499dcbd063323c97a19ba7c1344f999397ef2dda83"), looks := true }, kinds := [], alts := [], laidByText := true, laidKinds := [.data, .data], laidTests := true, laidLooks := .later }
def FnExactTreeLettersCardSaid : Prop := Claim7.holds Tryd.pinned (.plain (OpenSpec.ofChange fnExactTreeLettersSpec)) fnExactTreeLettersCard

/-- THE TIED CARD OF 'laws.FnExactTreeFrom'. -/
def fnExactTreeFromCard : Claim7 := { stood := { row := fnExactTreeFromRow, standIns := [], harness := (true, "ad3454511d3064c2f8f04e499dcbd063323c97a19ba7c1344f999397ef2dda83"), looks := true }, kinds := [], alts := [], laidByText := true, laidKinds := [.data, .data], laidTests := true, laidLooks := .later }
def FnExactTreeFromCardSaid : Prop := Claim7.holds Tryd.pinned (.plain (OpenSpec.ofChange fnExactTreeFromSpec)) fnExactTreeFromCard

/-- THE TIED CARD OF 'laws.FnExactTreeMiddle'. -/
def fnExactTreeMiddleCard : Claim7 := { stood := { row := fnExactTreeMiddleRow, standIns := [], harness := (true, "ad3454511d3064c2f8f04e499dcbd063323c97a19ba7c1344f999397ef2dda83"), looks := true }, kinds := [], alts := [], laidByText := true, laidKinds := [.data, .data], laidTests := true, laidLooks := .later }
def FnExactTreeMiddleCardSaid : Prop := Claim7.holds Tryd.pinned (.plain (OpenSpec.ofChange fnExactTreeMiddleSpec)) fnExactTreeMiddleCard

/-- THE TIED CARD OF 'laws.FnExactTreeWay'. -/
def fnExactTreeWayCard : Claim7 := { stood := { row := fnExactTreeWayRow, standIns := [], harness := (true, "ad3454511d3064c2f8f04e499dcbd063323c97a19ba7c1344f999397ef2dda83"), looks := true }, kinds := [], alts := [], laidByText := true, laidKinds := [.data, .data], laidTests := true, laidLooks := .later }
def FnExactTreeWayCardSaid : Prop := Claim7.holds Tryd.pinned (.plain (OpenSpec.ofChange fnExactTreeWaySpec)) fnExactTreeWayCard

/-- THE TIED CARD OF 'laws.FnExactTreeExchanges'. -/
def fnExactTreeExchangesCard : Claim7 := { stood := { row := fnExactTreeExchangesRow, standIns := [], harness := (true, "ad3454511d3064c2f8f04e499dcbd063323c97a19ba7c1344f999397ef2dda83"), looks := true }, kinds := [], alts := [], laidByText := true, laidKinds := [.data, .data], laidTests := true, laidLooks := .later }
def FnExactTreeExchangesCardSaid : Prop := Claim7.holds Tryd.pinned (.plain (OpenSpec.ofChange fnExactTreeExchangesSpec)) fnExactTreeExchangesCard

/-- THE TIED CARD OF 'laws.FnExactTreeFirst'. -/
def fnExactTreeFirstCard : Claim7 := { stood := { row := fnExactTreeFirstRow, standIns := [], harness := (true, "ad3454511d3064c2f8f04e499dcbd063323c97a19ba7c1344f999397ef2dda83"), looks := true }, kinds := [], alts := [], laidByText := true, laidKinds := [.data, .data], laidTests := true, laidLooks := .later }
def FnExactTreeFirstCardSaid : Prop := Claim7.holds Tryd.pinned (.plain (OpenSpec.ofChange fnExactTreeFirstSpec)) fnExactTreeFirstCard

/-- THE TIED CARD OF 'laws.FnExactTreeFar'. -/
def fnExactTreeFarCard : Claim7 := { stood := { row := fnExactTreeFarRow, standIns := [], harness := (true, "ad3454511d3064c2f8f04e499dcbd063323c97a19ba7c1344f999397ef2dda83"), looks := true }, kinds := [], alts := [], laidByText := true, laidKinds := [.data, .data], laidTests := true, laidLooks := .later }
def FnExactTreeFarCardSaid : Prop := Claim7.holds Tryd.pinned (.plain (OpenSpec.ofChange fnExactTreeFarSpec)) fnExactTreeFarCard

/-- THE SECOND FORM's CARD OF 'laws.FnMiddle'. -/
def fnMiddleUptoCard : Claim7 := { stood := { row := fnMiddleUptoRow, standIns := [], harness := (true, "ad3454511d3064c2f8f04e499dcbd063323c97a19ba7c1344f999397ef2dda83"), looks := true }, kinds := [], alts := [], laidByText := true, laidKinds := [.data, .data], laidTests := true, laidLooks := .later }
def FnMiddleUptoCardSaid : Prop := Claim7.holds Tryd.pinned (.plain (OpenSpec.upto fnMiddleSpec)) fnMiddleUptoCard

/-- THE SECOND FORM's CARD OF 'laws.FnExactTreeIn'. -/
def fnExactTreeInUptoCard : Claim7 := { stood := { row := fnExactTreeInUptoRow, standIns := [], harness := (true, "ad3454511d3064c2f8f04e499dcbd063323c97a19ba7c1344f999397ef2dda83"), looks := true }, kinds := [], alts := [], laidByText := true, laidKinds := [.data, .data], laidTests := true, laidLooks := .later }
def FnExactTreeInUptoCardSaid : Prop := Claim7.holds Tryd.pinned (.plain (OpenSpec.upto fnExactTreeInSpec)) fnExactTreeInUptoCard

/-- THE SECOND FORM's CARD OF 'laws.FnExactTreeLetters'. -/
def fnExactTreeLettersUptoCard : Claim7 := { stood := { row := fnExactTreeLettersUptoRow, standIns := [], harness := (true, "ad3454511d3064c2f8f04e499dcbd063323c97a19ba7c1344f999397ef2dda83"), looks := true }, kinds := [], alts := [], laidByText := true, laidKinds := [.data, .data], laidTests := true, laidLooks := .later }
def FnExactTreeLettersUptoCardSaid : Prop := Claim7.holds Tryd.pinned (.plain (OpenSpec.upto fnExactTreeLettersSpec)) fnExactTreeLettersUptoCard

/-- THE SECOND FORM's CARD OF 'laws.FnExactTreeFrom'. -/
def fnExactTreeFromUptoCard : Claim7 := { stood := { row := fnExactTreeFromUptoRow, standIns := [], harness := (true, "ad3454511d3064c2f8f04e499dcbd063323c97a19ba7c1344f999397ef2dda83"), looks := true }, kinds := [], alts := [], laidByText := true, laidKinds := [.data, .data], laidTests := true, laidLooks := .later }
def FnExactTreeFromUptoCardSaid : Prop := Claim7.holds Tryd.pinned (.plain (OpenSpec.upto fnExactTreeFromSpec)) fnExactTreeFromUptoCard

/-- THE SECOND FORM's CARD OF 'laws.FnExactTreeMiddle'. -/
def fnExactTreeMiddleUptoCard : Claim7 := { stood := { row := fnExactTreeMiddleUptoRow, standIns := [], harness := (true, "ad3454511d3064c2f8f04e499dcbd063323c97a19ba7c1344f999397ef2dda83"), looks := true }, kinds := [], alts := [], laidByText := true, laidKinds := [.data, .data], laidTests := true, laidLooks := .later }
def FnExactTreeMiddleUptoCardSaid : Prop := Claim7.holds Tryd.pinned (.plain (OpenSpec.upto fnExactTreeMiddleSpec)) fnExactTreeMiddleUptoCard

/-- THE SECOND FORM's CARD OF 'laws.FnExactTreeWay'. -/
def fnExactTreeWayUptoCard : Claim7 := { stood := { row := fnExactTreeWayUptoRow, standIns := [], harness := (true, "ad3454511d3064c2f8f04e499dcbd063323c97a19ba7c1344f999397ef2dda83"), looks := true }, kinds := [], alts := [], laidByText := true, laidKinds := [.data, .data], laidTests := true, laidLooks := .later }
def FnExactTreeWayUptoCardSaid : Prop := Claim7.holds Tryd.pinned (.plain (OpenSpec.upto fnExactTreeWaySpec)) fnExactTreeWayUptoCard

/-- THE SECOND FORM's CARD OF 'laws.FnExactTreeExchanges'. -/
def fnExactTreeExchangesUptoCard : Claim7 := { stood := { row := fnExactTreeExchangesUptoRow, standIns := [], harness := (true, "ad3454511d3064c2f8f04e499dcbd063323c97a19ba7c1344f999397ef2dda83"), looks := true }, kinds := [], alts := [], laidByText := true, laidKinds := [.data, .data], laidTests := true, laidLooks := .later }
def FnExactTreeExchangesUptoCardSaid : Prop := Claim7.holds Tryd.pinned (.plain (OpenSpec.upto fnExactTreeExchangesSpec)) fnExactTreeExchangesUptoCard

/-- THE SECOND FORM's CARD OF 'laws.FnExactTreeFirst'. -/
def fnExactTreeFirstUptoCard : Claim7 := { stood := { row := fnExactTreeFirstUptoRow, standIns := [], harness := (true, "ad3454511d3064c2f8f04e499dcbd063323c97a19ba7c1344f999397ef2dda83"), looks := true }, kinds := [], alts := [], laidByText := true, laidKinds := [.data, .data], laidTests := true, laidLooks := .later }
def FnExactTreeFirstUptoCardSaid : Prop := Claim7.holds Tryd.pinned (.plain (OpenSpec.upto fnExactTreeFirstSpec)) fnExactTreeFirstUptoCard

/-- THE SECOND FORM's CARD OF 'laws.FnExactTreeFar'. -/
def fnExactTreeFarUptoCard : Claim7 := { stood := { row := fnExactTreeFarUptoRow, standIns := [], harness := (true, "ad3454511d3064c2f8f04e499dcbd063323c97a19ba7c1344f999397ef2dda83"), looks := true }, kinds := [], alts := [], laidByText := true, laidKinds := [.data, .data], laidTests := true, laidLooks := .later }
def FnExactTreeFarUptoCardSaid : Prop := Claim7.holds Tryd.pinned (.plain (OpenSpec.upto fnExactTreeFarSpec)) fnExactTreeFarUptoCard
end Rows
end Go.Proofs.YtoipcdhofhpkfaaDoor
