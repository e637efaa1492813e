/-
  DERIVED. GIVEN WITH THE SEED: THE CARDS: each row of YtkccaajgdgdaaaaDoorRows.lean that lists a variable, with what it lists TIED to the program's text (the seventh form; the later family's looks); each row that meets fmt, with fmt's text TOLD by the authors' own Lean function (tested against real Go, not proved from fmt's source: count such statements apart). THE CARD IS WHAT COUNTS. Prove the row's statement (the work); the ties are given (YtkccaajgdgdaaaaDoorTie.lean); close each card by the builder's one call (the guide's Derived/Test/ToyasCard.lean, 'card_holds'). Laid BY PROGRAM, IN A SANDBOX (cutbox-door.mjs). By AI agents, Wed Nov 11 2026. No macro, syntax, notation, axiom, sorry.
-/
import Derived.Test.YtkccaajgdgdaaaaDoorRows
import GoSem.ClaimSeven
namespace Go.Proofs.YtkccaajgdgdaaaaDoor
namespace Rows

/-- THE TIED CARD OF 'laws.FnExactFineStep'. -/
def fnExactFineStepCard : Claim7 := { stood := { row := fnExactFineStepRow, standIns := [], harness := (true, "1e3347798978d5542bdc10fa99bfe34a8b94a81f85d4dd411f2f80949ae886b5"), looks := false }, kinds := [], alts := [], laidByText := true, laidKinds := [.data, .data], laidTests := true, laidLooks := .later }
def FnExactFineStepCardSaid : Prop := Claim7.holds Tryd.pinned (.plain (OpenSpec.ofChange fnExactFineStepSpec)) fnExactFineStepCard

/-- THE TIED CARD OF 'laws.FnExactFineFrom'. -/
def fnExactFineFromCard : Claim7 := { stood := { row := fnExactFineFromRow, standIns := [], harness := (true, "1e3347798978d5542bdc10fa99bfe34a8b94a81f85d4dd411f2f80949ae886b5"), looks := false }, kinds := [], alts := [], laidByText := true, laidKinds := [.data, .data], laidTests := true, laidLooks := .later }
def FnExactFineFromCardSaid : Prop := Claim7.holds Tryd.pinned (.plain (OpenSpec.ofChange fnExactFineFromSpec)) fnExactFineFromCard

/-- THE TIED CARD OF 'laws.FnExactFineEnd'. -/
def fnExactFineEndCard : Claim7 := { stood := { row := fnExactFineEndRow, standIns := [], harness := (true, "1e3347798978d5542bdc10fa99bfe34a8b94a81f85d4dd411f2f80949ae886b5"), looks := false }, kinds := [], alts := [], laidByText := true, laidKinds := [.data, .data], laidTests := true, laidLooks := .later }
def FnExactFineEndCardSaid : Prop := Claim7.holds Tryd.pinned (.plain (OpenSpec.ofChange fnExactFineEndSpec)) fnExactFineEndCard

/-- THE TIED CARD OF 'laws.FnExactFineMany'. -/
def fnExactFineManyCard : Claim7 := { stood := { row := fnExactFineManyRow, standIns := [], harness := (true, "1e3347798978d5542bdc10fa99bfe34a8b94a81f85d4dd411f2f80949ae886b5"), looks := false }, kinds := [], alts := [], laidByText := true, laidKinds := [.data, .data], laidTests := true, laidLooks := .later }
def FnExactFineManyCardSaid : Prop := Claim7.holds Tryd.pinned (.plain (OpenSpec.ofChange fnExactFineManySpec)) fnExactFineManyCard

/-- THE TIED CARD OF 'laws.FnExactFineSame'. -/
def fnExactFineSameCard : Claim7 := { stood := { row := fnExactFineSameRow, standIns := [], harness := (true, "1e3347798978d5542bdc10fa99bfe34a8b94a81f85d4dd411f2f80949ae886b5"), looks := false }, kinds := [], alts := [], laidByText := true, laidKinds := [.data, .data], laidTests := true, laidLooks := .later }
def FnExactFineSameCardSaid : Prop := Claim7.holds Tryd.pinned (.plain (OpenSpec.ofChange fnExactFineSameSpec)) fnExactFineSameCard

/-- THE TIED CARD OF 'laws.FnExactFineEven'. -/
def fnExactFineEvenCard : Claim7 := { stood := { row := fnExactFineEvenRow, standIns := [], harness := (true, "1e3347798978d5542bdc10fa99bfe34a8b94a81f85d4dd411f2f80949ae886b5"), looks := false }, kinds := [], alts := [], laidByText := true, laidKinds := [.data, .data], laidTests := true, laidLooks := .later }
def FnExactFineEvenCardSaid : Prop := Claim7.holds Tryd.pinned (.plain (OpenSpec.ofChange fnExactFineEvenSpec)) fnExactFineEvenCard

/-- THE SECOND FORM's CARD OF 'laws.FnExactFineStep'. -/
def fnExactFineStepUptoCard : Claim7 := { stood := { row := fnExactFineStepUptoRow, standIns := [], harness := (true, "1e3347798978d5542bdc10fa99bfe34a8b94a81f85d4dd411f2f80949ae886b5"), looks := false }, kinds := [], alts := [], laidByText := true, laidKinds := [.data, .data], laidTests := true, laidLooks := .later }
def FnExactFineStepUptoCardSaid : Prop := Claim7.holds Tryd.pinned (.plain (OpenSpec.upto fnExactFineStepSpec)) fnExactFineStepUptoCard

/-- THE SECOND FORM's CARD OF 'laws.FnExactFineFrom'. -/
def fnExactFineFromUptoCard : Claim7 := { stood := { row := fnExactFineFromUptoRow, standIns := [], harness := (true, "1e3347798978d5542bdc10fa99bfe34a8b94a81f85d4dd411f2f80949ae886b5"), looks := false }, kinds := [], alts := [], laidByText := true, laidKinds := [.data, .data], laidTests := true, laidLooks := .later }
def FnExactFineFromUptoCardSaid : Prop := Claim7.holds Tryd.pinned (.plain (OpenSpec.upto fnExactFineFromSpec)) fnExactFineFromUptoCard

/-- THE SECOND FORM's CARD OF 'laws.FnExactFineEnd'. -/
def fnExactFineEndUptoCard : Claim7 := { stood := { row := fnExactFineEndUptoRow, standIns := [], harness := (true, "1e3347798978d5542bdc10fa99bfe34a8b94a81f85d4dd411f2f80949ae886b5"), looks := false }, kinds := [], alts := [], laidByText := true, laidKinds := [.data, .data], laidTests := true, laidLooks := .later }
def FnExactFineEndUptoCardSaid : Prop := Claim7.holds Tryd.pinned (.plain (OpenSpec.upto fnExactFineEndSpec)) fnExactFineEndUptoCard

/-- THE SECOND FORM's CARD OF 'laws.FnExactFineMany'. -/
def fnExactFineManyUptoCard : Claim7 := { stood := { row := fnExactFineManyUptoRow, standIns := [], harness := (true, "1e3347798978d5542bdc10fa99bfe34a8b94a81f85d4dd411f2f80949ae886b5"), looks := false }, kinds := [], alts := [], laidByText := true, laidKinds := [.data, .data], laidTests := true, laidLooks := .later }
def FnExactFineManyUptoCardSaid : Prop := Claim7.holds Tryd.pinned (.plain (OpenSpec.upto fnExactFineManySpec)) fnExactFineManyUptoCard

/-- THE SECOND FORM's CARD OF 'laws.FnExactFineSame'. -/
def fnExactFineSameUptoCard : Claim7 := { stood := { row := fnExactFineSameUptoRow, standIns := [], harness := (true, "1e3347798978d5542bdc10fa99bfe34a8b94a81f85d4dd411f2f80949ae886b5"), looks := false }, kinds := [], alts := [], laidByText := true, laidKinds := [.data, .data], laidTests := true, laidLooks := .later }
def FnExactFineSameUptoCardSaid : Prop := Claim7.holds Tryd.pinned (.plain (OpenSpec.upto fnExactFineSameSpec)) fnExactFineSameUptoCard

/-- THE SECOND FORM's CARD OF 'laws.FnExactFineEven'. -/
def fnExactFineEvenUptoCard : Claim7 := { stood := { row := fnExactFineEvenUptoRow, standIns := [], harness := (true, "1e3347798978d5542bdc10fa99bfe34a8b94a81f85d4dd411f2f80949ae886b5"), looks := false }, kinds := [], alts := [], laidByText := true, laidKinds := [.data, .data], laidTests := true, laidLooks := .later }
def FnExactFineEvenUptoCardSaid : Prop := Claim7.holds Tryd.pinned (.plain (OpenSpec.upto fnExactFineEvenSpec)) fnExactFineEvenUptoCard
end Rows
end Go.Proofs.YtkccaajgdgdaaaaDoor
