/-
  DERIVED. GIVEN WITH THE SEED: THE CARDS: each row of YtkngijkhhonikaaDoorRows.lean that lists a variable, with what it lists TIED to the program's text (the seventh form; the later family's looks); each row that meets fmt, with fmt's text TOLD by the authors' own Lean function (tested against real Go, not proved from fmt's source: count such statements apart). THE CARD IS WHAT COUNTS. Prove the row's statement (the work); the ties are given (YtkngijkhhonikaaDoorTie.lean); close each card by the builder's one call (the guide's Derived/Test/ToyasCard.lean, 'card_holds'). Laid BY PROGRAM, IN A SANDBOX (cutbox-door.mjs). By AI agents, Wed Nov 11 2026. No macro, syntax, notation, axiom, sorry.
-/
import Derived.Test.YtkngijkhhonikaaDoorRows
import GoSem.ClaimSeven
namespace Go.Proofs.YtkngijkhhonikaaDoor
namespace Rows

/-- THE TIED CARD OF 'laws.FnTree'. -/
def fnTreeCard : Claim7 := { stood := { row := fnTreeRow, standIns := [], harness := (true, "417f807b982b3fb7b0b731812dee62c2e643efb7b009f38e8567bafbf92a097b"), looks := false }, kinds := [], alts := [], laidByText := true, laidKinds := [.data, .data], laidTests := true, laidLooks := .later }
def FnTreeCardSaid : Prop := Claim7.holds Tryd.pinned (.plain (OpenSpec.ofChange fnTreeSpec)) fnTreeCard

/-- THE TIED CARD OF 'laws.FnTreeMany'. -/
def fnTreeManyCard : Claim7 := { stood := { row := fnTreeManyRow, standIns := [], harness := (true, "417f807b982b3fb7b0b731812dee62c2e643efb7b009f38e8567bafbf92a097b"), looks := false }, kinds := [], alts := [], laidByText := true, laidKinds := [.data, .data], laidTests := true, laidLooks := .later }
def FnTreeManyCardSaid : Prop := Claim7.holds Tryd.pinned (.plain (OpenSpec.ofChange fnTreeManySpec)) fnTreeManyCard

/-- THE TIED CARD OF 'laws.FnMiddle'. -/
def fnMiddleCard : Claim7 := { stood := { row := fnMiddleRow, standIns := [], harness := (true, "417f807b982b3fb7b0b731812dee62c2e643efb7b009f38e8567bafbf92a097b"), looks := false }, kinds := [], alts := [], laidByText := true, laidKinds := [.data, .data], laidTests := true, laidLooks := .later }
def FnMiddleCardSaid : Prop := Claim7.holds Tryd.pinned (.plain (OpenSpec.ofChange fnMiddleSpec)) fnMiddleCard

/-- THE TIED CARD OF 'laws.FnWay'. -/
def fnWayCard : Claim7 := { stood := { row := fnWayRow, standIns := [], harness := (true, "417f807b982b3fb7b0b731812dee62c2e643efb7b009f38e8567bafbf92a097b"), looks := false }, kinds := [], alts := [], laidByText := true, laidKinds := [.data, .data], laidTests := true, laidLooks := .later }
def FnWayCardSaid : Prop := Claim7.holds Tryd.pinned (.plain (OpenSpec.ofChange fnWaySpec)) fnWayCard

/-- THE TIED CARD OF 'laws.FnTreeFirst'. -/
def fnTreeFirstCard : Claim7 := { stood := { row := fnTreeFirstRow, standIns := [], harness := (true, "417f807b982b3fb7b0b731812dee62c2e643efb7b009f38e8567bafbf92a097b"), looks := false }, kinds := [], alts := [], laidByText := true, laidKinds := [.data, .data], laidTests := true, laidLooks := .later }
def FnTreeFirstCardSaid : Prop := Claim7.holds Tryd.pinned (.plain (OpenSpec.ofChange fnTreeFirstSpec)) fnTreeFirstCard

/-- THE TIED CARD OF 'laws.FnFar'. -/
def fnFarCard : Claim7 := { stood := { row := fnFarRow, standIns := [], harness := (true, "417f807b982b3fb7b0b731812dee62c2e643efb7b009f38e8567bafbf92a097b"), looks := false }, kinds := [], alts := [], laidByText := true, laidKinds := [.data, .data], laidTests := true, laidLooks := .later }
def FnFarCardSaid : Prop := Claim7.holds Tryd.pinned (.plain (OpenSpec.ofChange fnFarSpec)) fnFarCard

/-- THE TIED CARD OF 'laws.FnMiddleNamed'. -/
def fnMiddleNamedCard : Claim7 := { stood := { row := fnMiddleNamedRow, standIns := [], harness := (true, "417f807b982b3fb7b0b731812dee62c2e643efb7b009f38e8567bafbf92a097b"), looks := false }, kinds := [], alts := [], laidByText := true, laidKinds := [.data, .data], laidTests := true, laidLooks := .later }
def FnMiddleNamedCardSaid : Prop := Claim7.holds Tryd.pinned (.plain (OpenSpec.ofChange fnMiddleNamedSpec)) fnMiddleNamedCard

/-- THE SECOND FORM's CARD OF 'laws.FnTree'. -/
def fnTreeUptoCard : Claim7 := { stood := { row := fnTreeUptoRow, standIns := [], harness := (true, "417f807b982b3fb7b0b731812dee62c2e643efb7b009f38e8567bafbf92a097b"), looks := false }, kinds := [], alts := [], laidByText := true, laidKinds := [.data, .data], laidTests := true, laidLooks := .later }
def FnTreeUptoCardSaid : Prop := Claim7.holds Tryd.pinned (.plain (OpenSpec.upto fnTreeSpec)) fnTreeUptoCard

/-- THE SECOND FORM's CARD OF 'laws.FnTreeMany'. -/
def fnTreeManyUptoCard : Claim7 := { stood := { row := fnTreeManyUptoRow, standIns := [], harness := (true, "417f807b982b3fb7b0b731812dee62c2e643efb7b009f38e8567bafbf92a097b"), looks := false }, kinds := [], alts := [], laidByText := true, laidKinds := [.data, .data], laidTests := true, laidLooks := .later }
def FnTreeManyUptoCardSaid : Prop := Claim7.holds Tryd.pinned (.plain (OpenSpec.upto fnTreeManySpec)) fnTreeManyUptoCard

/-- THE SECOND FORM's CARD OF 'laws.FnMiddle'. -/
def fnMiddleUptoCard : Claim7 := { stood := { row := fnMiddleUptoRow, standIns := [], harness := (true, "417f807b982b3fb7b0b731812dee62c2e643efb7b009f38e8567bafbf92a097b"), looks := false }, kinds := [], alts := [], laidByText := true, laidKinds := [.data, .data], laidTests := true, laidLooks := .later }
def FnMiddleUptoCardSaid : Prop := Claim7.holds Tryd.pinned (.plain (OpenSpec.upto fnMiddleSpec)) fnMiddleUptoCard

/-- THE SECOND FORM's CARD OF 'laws.FnWay'. -/
def fnWayUptoCard : Claim7 := { stood := { row := fnWayUptoRow, standIns := [], harness := (true, "417f807b982b3fb7b0b731812dee62c2e643efb7b009f38e8567bafbf92a097b"), looks := false }, kinds := [], alts := [], laidByText := true, laidKinds := [.data, .data], laidTests := true, laidLooks := .later }
def FnWayUptoCardSaid : Prop := Claim7.holds Tryd.pinned (.plain (OpenSpec.upto fnWaySpec)) fnWayUptoCard

/-- THE SECOND FORM's CARD OF 'laws.FnTreeFirst'. -/
def fnTreeFirstUptoCard : Claim7 := { stood := { row := fnTreeFirstUptoRow, standIns := [], harness := (true, "417f807b982b3fb7b0b731812dee62c2e643efb7b009f38e8567bafbf92a097b"), looks := false }, kinds := [], alts := [], laidByText := true, laidKinds := [.data, .data], laidTests := true, laidLooks := .later }
def FnTreeFirstUptoCardSaid : Prop := Claim7.holds Tryd.pinned (.plain (OpenSpec.upto fnTreeFirstSpec)) fnTreeFirstUptoCard

/-- THE SECOND FORM's CARD OF 'laws.FnFar'. -/
def fnFarUptoCard : Claim7 := { stood := { row := fnFarUptoRow, standIns := [], harness := (true, "417f807b982b3fb7b0b731812dee62c2e643efb7b009f38e8567bafbf92a097b"), looks := false }, kinds := [], alts := [], laidByText := true, laidKinds := [.data, .data], laidTests := true, laidLooks := .later }
def FnFarUptoCardSaid : Prop := Claim7.holds Tryd.pinned (.plain (OpenSpec.upto fnFarSpec)) fnFarUptoCard

/-- THE SECOND FORM's CARD OF 'laws.FnMiddleNamed'. -/
def fnMiddleNamedUptoCard : Claim7 := { stood := { row := fnMiddleNamedUptoRow, standIns := [], harness := (true, "417f807b982b3fb7b0b731812dee62c2e643efb7b009f38e8567bafbf92a097b"), looks := false }, kinds := [], alts := [], laidByText := true, laidKinds := [.data, .data], laidTests := true, laidLooks := .later }
def FnMiddleNamedUptoCardSaid : Prop := Claim7.holds Tryd.pinned (.plain (OpenSpec.upto fnMiddleNamedSpec)) fnMiddleNamedUptoCard
end Rows
end Go.Proofs.YtkngijkhhonikaaDoor
