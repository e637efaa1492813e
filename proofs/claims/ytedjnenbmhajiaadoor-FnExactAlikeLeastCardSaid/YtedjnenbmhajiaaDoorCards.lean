/-
  DERIVED. GIVEN WITH THE SEED: THE CARDS: each row of YtedjnenbmhajiaaDoorRows.lean that lists a variable, with what it lists TIED to the program's text (the seventh form; the later family's looks); each row that meets fmt, with fmt's text TOLD by the authors' own Lean function (tested against real Go, not proved from fmt's source: count such statements apart). THE CARD IS WHAT COUNTS. Prove the row's statement (the work); the ties are given (YtedjnenbmhajiaaDoorTie.lean); close each card by the builder's one call (the guide's Derived/Test/ToyasCard.lean, 'card_holds'). Laid BY PROGRAM, IN A SANDBOX (cutbox-door.mjs). By AI agents, Wed Nov 11 2026. No macro, syntax, notation, axiom, sorry.
-/
import Derived.Test.YtedjnenbmhajiaaDoorRows
import GoSem.ClaimSeven
namespace Go.Proofs.YtedjnenbmhajiaaDoor
namespace Rows

/-- THE TIED CARD OF 'laws.FnExactAlikeFirst'. -/
def fnExactAlikeFirstCard : Claim7 := { stood := { row := fnExactAlikeFirstRow, standIns := [], harness := (true, "98e1af557b38077c4c207d22bcab4c0947a01323654209e2c8d7a3074fb09f57"), looks := false }, kinds := [], alts := [], laidByText := true, laidKinds := [.data, .data], laidTests := true, laidLooks := .later }
def FnExactAlikeFirstCardSaid : Prop := Claim7.holds Tryd.pinned (.plain (OpenSpec.ofChange fnExactAlikeFirstSpec)) fnExactAlikeFirstCard

/-- THE TIED CARD OF 'laws.FnExactAlikeLeast'. -/
def fnExactAlikeLeastCard : Claim7 := { stood := { row := fnExactAlikeLeastRow, standIns := [], harness := (true, "98e1af557b38077c4c207d22bcab4c0947a01323654209e2c8d7a3074fb09f57"), looks := false }, kinds := [], alts := [], laidByText := true, laidKinds := [.data, .data], laidTests := true, laidLooks := .later }
def FnExactAlikeLeastCardSaid : Prop := Claim7.holds Tryd.pinned (.plain (OpenSpec.ofChange fnExactAlikeLeastSpec)) fnExactAlikeLeastCard

/-- THE TIED CARD OF 'laws.FnExactAlikeSame'. -/
def fnExactAlikeSameCard : Claim7 := { stood := { row := fnExactAlikeSameRow, standIns := [], harness := (true, "98e1af557b38077c4c207d22bcab4c0947a01323654209e2c8d7a3074fb09f57"), looks := false }, kinds := [], alts := [], laidByText := true, laidKinds := [.data, .data], laidTests := true, laidLooks := .later }
def FnExactAlikeSameCardSaid : Prop := Claim7.holds Tryd.pinned (.plain (OpenSpec.ofChange fnExactAlikeSameSpec)) fnExactAlikeSameCard

/-- THE TIED CARD OF 'laws.FnExactAlikeOrbits'. -/
def fnExactAlikeOrbitsCard : Claim7 := { stood := { row := fnExactAlikeOrbitsRow, standIns := [], harness := (true, "98e1af557b38077c4c207d22bcab4c0947a01323654209e2c8d7a3074fb09f57"), looks := false }, kinds := [], alts := [], laidByText := true, laidKinds := [.data, .data], laidTests := true, laidLooks := .later }
def FnExactAlikeOrbitsCardSaid : Prop := Claim7.holds Tryd.pinned (.plain (OpenSpec.ofChange fnExactAlikeOrbitsSpec)) fnExactAlikeOrbitsCard

/-- THE TIED CARD OF 'laws.FnExactAlikeAll'. -/
def fnExactAlikeAllCard : Claim7 := { stood := { row := fnExactAlikeAllRow, standIns := [], harness := (true, "98e1af557b38077c4c207d22bcab4c0947a01323654209e2c8d7a3074fb09f57"), looks := false }, kinds := [], alts := [], laidByText := true, laidKinds := [.data, .data], laidTests := true, laidLooks := .later }
def FnExactAlikeAllCardSaid : Prop := Claim7.holds Tryd.pinned (.plain (OpenSpec.ofChange fnExactAlikeAllSpec)) fnExactAlikeAllCard

/-- THE TIED CARD OF 'laws.FnExactAlikeMany'. -/
def fnExactAlikeManyCard : Claim7 := { stood := { row := fnExactAlikeManyRow, standIns := [], harness := (true, "98e1af557b38077c4c207d22bcab4c0947a01323654209e2c8d7a3074fb09f57"), looks := false }, kinds := [], alts := [], laidByText := true, laidKinds := [.data, .data], laidTests := true, laidLooks := .later }
def FnExactAlikeManyCardSaid : Prop := Claim7.holds Tryd.pinned (.plain (OpenSpec.ofChange fnExactAlikeManySpec)) fnExactAlikeManyCard

/-- THE TIED CARD OF 'laws.FnExactAlikeOwn'. -/
def fnExactAlikeOwnCard : Claim7 := { stood := { row := fnExactAlikeOwnRow, standIns := [], harness := (true, "98e1af557b38077c4c207d22bcab4c0947a01323654209e2c8d7a3074fb09f57"), looks := false }, kinds := [], alts := [], laidByText := true, laidKinds := [.data, .data], laidTests := true, laidLooks := .later }
def FnExactAlikeOwnCardSaid : Prop := Claim7.holds Tryd.pinned (.plain (OpenSpec.ofChange fnExactAlikeOwnSpec)) fnExactAlikeOwnCard

/-- THE SECOND FORM's CARD OF 'laws.FnExactAlikeFirst'. -/
def fnExactAlikeFirstUptoCard : Claim7 := { stood := { row := fnExactAlikeFirstUptoRow, standIns := [], harness := (true, "98e1af557b38077c4c207d22bcab4c0947a01323654209e2c8d7a3074fb09f57"), looks := false }, kinds := [], alts := [], laidByText := true, laidKinds := [.data, .data], laidTests := true, laidLooks := .later }
def FnExactAlikeFirstUptoCardSaid : Prop := Claim7.holds Tryd.pinned (.plain (OpenSpec.upto fnExactAlikeFirstSpec)) fnExactAlikeFirstUptoCard

/-- THE SECOND FORM's CARD OF 'laws.FnExactAlikeLeast'. -/
def fnExactAlikeLeastUptoCard : Claim7 := { stood := { row := fnExactAlikeLeastUptoRow, standIns := [], harness := (true, "98e1af557b38077c4c207d22bcab4c0947a01323654209e2c8d7a3074fb09f57"), looks := false }, kinds := [], alts := [], laidByText := true, laidKinds := [.data, .data], laidTests := true, laidLooks := .later }
def FnExactAlikeLeastUptoCardSaid : Prop := Claim7.holds Tryd.pinned (.plain (OpenSpec.upto fnExactAlikeLeastSpec)) fnExactAlikeLeastUptoCard

/-- THE SECOND FORM's CARD OF 'laws.FnExactAlikeSame'. -/
def fnExactAlikeSameUptoCard : Claim7 := { stood := { row := fnExactAlikeSameUptoRow, standIns := [], harness := (true, "98e1af557b38077c4c207d22bcab4c0947a01323654209e2c8d7a3074fb09f57"), looks := false }, kinds := [], alts := [], laidByText := true, laidKinds := [.data, .data], laidTests := true, laidLooks := .later }
def FnExactAlikeSameUptoCardSaid : Prop := Claim7.holds Tryd.pinned (.plain (OpenSpec.upto fnExactAlikeSameSpec)) fnExactAlikeSameUptoCard

/-- THE SECOND FORM's CARD OF 'laws.FnExactAlikeOrbits'. -/
def fnExactAlikeOrbitsUptoCard : Claim7 := { stood := { row := fnExactAlikeOrbitsUptoRow, standIns := [], harness := (true, "98e1af557b38077c4c207d22bcab4c0947a01323654209e2c8d7a3074fb09f57"), looks := false }, kinds := [], alts := [], laidByText := true, laidKinds := [.data, .data], laidTests := true, laidLooks := .later }
def FnExactAlikeOrbitsUptoCardSaid : Prop := Claim7.holds Tryd.pinned (.plain (OpenSpec.upto fnExactAlikeOrbitsSpec)) fnExactAlikeOrbitsUptoCard

/-- THE SECOND FORM's CARD OF 'laws.FnExactAlikeAll'. -/
def fnExactAlikeAllUptoCard : Claim7 := { stood := { row := fnExactAlikeAllUptoRow, standIns := [], harness := (true, "98e1af557b38077c4c207d22bcab4c0947a01323654209e2c8d7a3074fb09f57"), looks := false }, kinds := [], alts := [], laidByText := true, laidKinds := [.data, .data], laidTests := true, laidLooks := .later }
def FnExactAlikeAllUptoCardSaid : Prop := Claim7.holds Tryd.pinned (.plain (OpenSpec.upto fnExactAlikeAllSpec)) fnExactAlikeAllUptoCard

/-- THE SECOND FORM's CARD OF 'laws.FnExactAlikeMany'. -/
def fnExactAlikeManyUptoCard : Claim7 := { stood := { row := fnExactAlikeManyUptoRow, standIns := [], harness := (true, "98e1af557b38077c4c207d22bcab4c0947a01323654209e2c8d7a3074fb09f57"), looks := false }, kinds := [], alts := [], laidByText := true, laidKinds := [.data, .data], laidTests := true, laidLooks := .later }
def FnExactAlikeManyUptoCardSaid : Prop := Claim7.holds Tryd.pinned (.plain (OpenSpec.upto fnExactAlikeManySpec)) fnExactAlikeManyUptoCard

/-- THE SECOND FORM's CARD OF 'laws.FnExactAlikeOwn'. -/
def fnExactAlikeOwnUptoCard : Claim7 := { stood := { row := fnExactAlikeOwnUptoRow, standIns := [], harness := (true, "98e1af557b38077c4c207d22bcab4c0947a01323654209e2c8d7a3074fb09f57"), looks := false }, kinds := [], alts := [], laidByText := true, laidKinds := [.data, .data], laidTests := true, laidLooks := .later }
def FnExactAlikeOwnUptoCardSaid : Prop := Claim7.holds Tryd.pinned (.plain (OpenSpec.upto fnExactAlikeOwnSpec)) fnExactAlikeOwnUptoCard
end Rows
end Go.Proofs.YtedjnenbmhajiaaDoor
