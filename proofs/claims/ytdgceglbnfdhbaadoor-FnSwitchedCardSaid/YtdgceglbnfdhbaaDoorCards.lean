/-
  DERIVED. GIVEN WITH THE SEED: THE CARDS: each row of YtdgceglbnfdhbaaDoorRows.lean that lists a variable, with what it lists TIED to the program's text (the seventh form; the later family's looks); each row that meets fmt, with fmt's text TOLD by the authors' own Lean function (tested against real Go, not proved from fmt's source: count such statements apart). THE CARD IS WHAT COUNTS. Prove the row's statement (the work); the ties are given (YtdgceglbnfdhbaaDoorTie.lean); close each card by the builder's one call (the guide's Derived/Test/ToyasCard.lean, 'card_holds'). Laid BY PROGRAM, IN A SANDBOX (cutbox-door.mjs). By AI agents, Wed Nov 11 2026. No macro, syntax, notation, axiom, sorry.
-/
import Derived.Test.YtdgceglbnfdhbaaDoorRows
import GoSem.ClaimSeven
namespace Go.Proofs.YtdgceglbnfdhbaaDoor
namespace Rows

/-- THE TIED CARD OF 'laws.FnExactNearLeast'. -/
def fnExactNearLeastCard : Claim7 := { stood := { row := fnExactNearLeastRow, standIns := [], harness := (true, "be690e9cb1bea9d0c7a6db3077579f255642bc06582014af9eb59907e0f87bb2"), looks := false }, kinds := [], alts := [], laidByText := true, laidKinds := [.data, .data], laidTests := true, laidLooks := .later }
def FnExactNearLeastCardSaid : Prop := Claim7.holds Tryd.pinned (.plain (OpenSpec.ofChange fnExactNearLeastSpec)) fnExactNearLeastCard

/-- THE TIED CARD OF 'laws.FnExactNearNames'. -/
def fnExactNearNamesCard : Claim7 := { stood := { row := fnExactNearNamesRow, standIns := [], harness := (true, "be690e9cb1bea9d0c7a6db3077579f255642bc06582014af9eb59907e0f87bb2"), looks := false }, kinds := [], alts := [], laidByText := true, laidKinds := [.data, .data], laidTests := true, laidLooks := .later }
def FnExactNearNamesCardSaid : Prop := Claim7.holds Tryd.pinned (.plain (OpenSpec.ofChange fnExactNearNamesSpec)) fnExactNearNamesCard

/-- THE TIED CARD OF 'laws.FnExactNearSwitched'. -/
def fnExactNearSwitchedCard : Claim7 := { stood := { row := fnExactNearSwitchedRow, standIns := [], harness := (true, "be690e9cb1bea9d0c7a6db3077579f255642bc06582014af9eb59907e0f87bb2"), looks := false }, kinds := [], alts := [], laidByText := true, laidKinds := [.data, .data], laidTests := true, laidLooks := .later }
def FnExactNearSwitchedCardSaid : Prop := Claim7.holds Tryd.pinned (.plain (OpenSpec.ofChange fnExactNearSwitchedSpec)) fnExactNearSwitchedCard

/-- THE TIED CARD OF 'laws.FnExactNearSwitchLeast'. -/
def fnExactNearSwitchLeastCard : Claim7 := { stood := { row := fnExactNearSwitchLeastRow, standIns := [], harness := (true, "be690e9cb1bea9d0c7a6db3077579f255642bc06582014af9eb59907e0f87bb2"), looks := false }, kinds := [], alts := [], laidByText := true, laidKinds := [.data, .data], laidTests := true, laidLooks := .later }
def FnExactNearSwitchLeastCardSaid : Prop := Claim7.holds Tryd.pinned (.plain (OpenSpec.ofChange fnExactNearSwitchLeastSpec)) fnExactNearSwitchLeastCard

/-- THE TIED CARD OF 'laws.FnExactNearTwins'. -/
def fnExactNearTwinsCard : Claim7 := { stood := { row := fnExactNearTwinsRow, standIns := [], harness := (true, "be690e9cb1bea9d0c7a6db3077579f255642bc06582014af9eb59907e0f87bb2"), looks := false }, kinds := [], alts := [], laidByText := true, laidKinds := [.data, .data], laidTests := true, laidLooks := .later }
def FnExactNearTwinsCardSaid : Prop := Claim7.holds Tryd.pinned (.plain (OpenSpec.ofChange fnExactNearTwinsSpec)) fnExactNearTwinsCard

/-- THE TIED CARD OF 'laws.FnExactNearNone'. -/
def fnExactNearNoneCard : Claim7 := { stood := { row := fnExactNearNoneRow, standIns := [], harness := (true, "be690e9cb1bea9d0c7a6db3077579f255642bc06582014af9eb59907e0f87bb2"), looks := false }, kinds := [], alts := [], laidByText := true, laidKinds := [.data, .data], laidTests := true, laidLooks := .later }
def FnExactNearNoneCardSaid : Prop := Claim7.holds Tryd.pinned (.plain (OpenSpec.ofChange fnExactNearNoneSpec)) fnExactNearNoneCard

/-- THE TIED CARD OF 'laws.FnSwitched'. -/
def fnSwitchedCard : Claim7 := { stood := { row := fnSwitchedRow, standIns := [], harness := (true, "be690e9cb1bea9d0c7a6db3077579f255642bc06582014af9eb59907e0f87bb2"), looks := false }, kinds := [], alts := [], laidByText := true, laidKinds := [.data, .data], laidTests := true, laidLooks := .later }
def FnSwitchedCardSaid : Prop := Claim7.holds Tryd.pinned (.plain (OpenSpec.ofChange fnSwitchedSpec)) fnSwitchedCard

/-- THE SECOND FORM's CARD OF 'laws.FnExactNearLeast'. -/
def fnExactNearLeastUptoCard : Claim7 := { stood := { row := fnExactNearLeastUptoRow, standIns := [], harness := (true, "be690e9cb1bea9d0c7a6db3077579f255642bc06582014af9eb59907e0f87bb2"), looks := false }, kinds := [], alts := [], laidByText := true, laidKinds := [.data, .data], laidTests := true, laidLooks := .later }
def FnExactNearLeastUptoCardSaid : Prop := Claim7.holds Tryd.pinned (.plain (OpenSpec.upto fnExactNearLeastSpec)) fnExactNearLeastUptoCard

/-- THE SECOND FORM's CARD OF 'laws.FnExactNearNames'. -/
def fnExactNearNamesUptoCard : Claim7 := { stood := { row := fnExactNearNamesUptoRow, standIns := [], harness := (true, "be690e9cb1bea9d0c7a6db3077579f255642bc06582014af9eb59907e0f87bb2"), looks := false }, kinds := [], alts := [], laidByText := true, laidKinds := [.data, .data], laidTests := true, laidLooks := .later }
def FnExactNearNamesUptoCardSaid : Prop := Claim7.holds Tryd.pinned (.plain (OpenSpec.upto fnExactNearNamesSpec)) fnExactNearNamesUptoCard

/-- THE SECOND FORM's CARD OF 'laws.FnExactNearSwitched'. -/
def fnExactNearSwitchedUptoCard : Claim7 := { stood := { row := fnExactNearSwitchedUptoRow, standIns := [], harness := (true, "be690e9cb1bea9d0c7a6db3077579f255642bc06582014af9eb59907e0f87bb2"), looks := false }, kinds := [], alts := [], laidByText := true, laidKinds := [.data, .data], laidTests := true, laidLooks := .later }
def FnExactNearSwitchedUptoCardSaid : Prop := Claim7.holds Tryd.pinned (.plain (OpenSpec.upto fnExactNearSwitchedSpec)) fnExactNearSwitchedUptoCard

/-- THE SECOND FORM's CARD OF 'laws.FnExactNearSwitchLeast'. -/
def fnExactNearSwitchLeastUptoCard : Claim7 := { stood := { row := fnExactNearSwitchLeastUptoRow, standIns := [], harness := (true, "be690e9cb1bea9d0c7a6db3077579f255642bc06582014af9eb59907e0f87bb2"), looks := false }, kinds := [], alts := [], laidByText := true, laidKinds := [.data, .data], laidTests := true, laidLooks := .later }
def FnExactNearSwitchLeastUptoCardSaid : Prop := Claim7.holds Tryd.pinned (.plain (OpenSpec.upto fnExactNearSwitchLeastSpec)) fnExactNearSwitchLeastUptoCard

/-- THE SECOND FORM's CARD OF 'laws.FnExactNearTwins'. -/
def fnExactNearTwinsUptoCard : Claim7 := { stood := { row := fnExactNearTwinsUptoRow, standIns := [], harness := (true, "be690e9cb1bea9d0c7a6db3077579f255642bc06582014af9eb59907e0f87bb2"), looks := false }, kinds := [], alts := [], laidByText := true, laidKinds := [.data, .data], laidTests := true, laidLooks := .later }
def FnExactNearTwinsUptoCardSaid : Prop := Claim7.holds Tryd.pinned (.plain (OpenSpec.upto fnExactNearTwinsSpec)) fnExactNearTwinsUptoCard

/-- THE SECOND FORM's CARD OF 'laws.FnExactNearNone'. -/
def fnExactNearNoneUptoCard : Claim7 := { stood := { row := fnExactNearNoneUptoRow, standIns := [], harness := (true, "be690e9cb1bea9d0c7a6db3077579f255642bc06582014af9eb59907e0f87bb2"), looks := false }, kinds := [], alts := [], laidByText := true, laidKinds := [.data, .data], laidTests := true, laidLooks := .later }
def FnExactNearNoneUptoCardSaid : Prop := Claim7.holds Tryd.pinned (.plain (OpenSpec.upto fnExactNearNoneSpec)) fnExactNearNoneUptoCard

/-- THE SECOND FORM's CARD OF 'laws.FnSwitched'. -/
def fnSwitchedUptoCard : Claim7 := { stood := { row := fnSwitchedUptoRow, standIns := [], harness := (true, "be690e9cb1bea9d0c7a6db3077579f255642bc06582014af9eb59907e0f87bb2"), looks := false }, kinds := [], alts := [], laidByText := true, laidKinds := [.data, .data], laidTests := true, laidLooks := .later }
def FnSwitchedUptoCardSaid : Prop := Claim7.holds Tryd.pinned (.plain (OpenSpec.upto fnSwitchedSpec)) fnSwitchedUptoCard
end Rows
end Go.Proofs.YtdgceglbnfdhbaaDoor
