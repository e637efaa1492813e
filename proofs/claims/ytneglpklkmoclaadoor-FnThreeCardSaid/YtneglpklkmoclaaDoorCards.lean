/-
  DERIVED. GIVEN WITH THE SEED: THE CARDS: each row of YtneglpklkmoclaaDoorRows.lean that lists a variable, with what it lists TIED to the program's text (the seventh form; the later family's looks); each row that meets fmt, with fmt's text TOLD by the authors' own Lean function (tested against real Go, not proved from fmt's source: count such statements apart). THE CARD IS WHAT COUNTS. Prove the row's statement (the work); the ties are given (YtneglpklkmoclaaDoorTie.lean); close each card by the builder's one call (the guide's Derived/Test/ToyasCard.lean, 'card_holds'). Laid BY PROGRAM, IN A SANDBOX (cutbox-door.mjs). By AI agents, Wed Nov 11 2026. No macro, syntax, notation, axiom, sorry.
-/
import Derived.Test.YtneglpklkmoclaaDoorRows
import GoSem.ClaimSeven
namespace Go.Proofs.YtneglpklkmoclaaDoor
namespace Rows

/-- THE TIED CARD OF 'laws.FnWalks'. -/
def fnWalksCard : Claim7 := { stood := { row := fnWalksRow, standIns := [], harness := (true, "e1e1828e0d237aa5cfaacffc9b06e8b0d0644e10ad5b464a1061123567c3179b"), looks := false }, kinds := [], alts := [], laidByText := true, laidKinds := [.data, .data], laidTests := true, laidLooks := .later }
def FnWalksCardSaid : Prop := Claim7.holds Tryd.pinned (.plain (OpenSpec.ofChange fnWalksSpec)) fnWalksCard

/-- THE TIED CARD OF 'laws.FnWalksSquare'. -/
def fnWalksSquareCard : Claim7 := { stood := { row := fnWalksSquareRow, standIns := [], harness := (true, "e1e1828e0d237aa5cfaacffc9b06e8b0d0644e10ad5b464a1061123567c3179b"), looks := false }, kinds := [], alts := [], laidByText := true, laidKinds := [.data, .data], laidTests := true, laidLooks := .later }
def FnWalksSquareCardSaid : Prop := Claim7.holds Tryd.pinned (.plain (OpenSpec.ofChange fnWalksSquareSpec)) fnWalksSquareCard

/-- THE TIED CARD OF 'laws.FnClosed'. -/
def fnClosedCard : Claim7 := { stood := { row := fnClosedRow, standIns := [], harness := (true, "e1e1828e0d237aa5cfaacffc9b06e8b0d0644e10ad5b464a1061123567c3179b"), looks := false }, kinds := [], alts := [], laidByText := true, laidKinds := [.data, .data], laidTests := true, laidLooks := .later }
def FnClosedCardSaid : Prop := Claim7.holds Tryd.pinned (.plain (OpenSpec.ofChange fnClosedSpec)) fnClosedCard

/-- THE TIED CARD OF 'laws.FnPoly'. -/
def fnPolyCard : Claim7 := { stood := { row := fnPolyRow, standIns := [], harness := (true, "e1e1828e0d237aa5cfaacffc9b06e8b0d0644e10ad5b464a1061123567c3179b"), looks := false }, kinds := [], alts := [], laidByText := true, laidKinds := [.data, .data], laidTests := true, laidLooks := .later }
def FnPolyCardSaid : Prop := Claim7.holds Tryd.pinned (.plain (OpenSpec.ofChange fnPolySpec)) fnPolyCard

/-- THE TIED CARD OF 'laws.FnPolyWalks'. -/
def fnPolyWalksCard : Claim7 := { stood := { row := fnPolyWalksRow, standIns := [], harness := (true, "e1e1828e0d237aa5cfaacffc9b06e8b0d0644e10ad5b464a1061123567c3179b"), looks := false }, kinds := [], alts := [], laidByText := true, laidKinds := [.data, .data], laidTests := true, laidLooks := .later }
def FnPolyWalksCardSaid : Prop := Claim7.holds Tryd.pinned (.plain (OpenSpec.ofChange fnPolyWalksSpec)) fnPolyWalksCard

/-- THE TIED CARD OF 'laws.FnTrees'. -/
def fnTreesCard : Claim7 := { stood := { row := fnTreesRow, standIns := [], harness := (true, "e1e1828e0d237aa5cfaacffc9b06e8b0d0644e10ad5b464a1061123567c3179b"), looks := false }, kinds := [], alts := [], laidByText := true, laidKinds := [.data, .data], laidTests := true, laidLooks := .later }
def FnTreesCardSaid : Prop := Claim7.holds Tryd.pinned (.plain (OpenSpec.ofChange fnTreesSpec)) fnTreesCard

/-- THE TIED CARD OF 'laws.FnThree'. -/
def fnThreeCard : Claim7 := { stood := { row := fnThreeRow, standIns := [], harness := (true, "e1e1828e0d237aa5cfaacffc9b06e8b0d0644e10ad5b464a1061123567c3179b"), looks := false }, kinds := [], alts := [], laidByText := true, laidKinds := [.data, .data], laidTests := true, laidLooks := .later }
def FnThreeCardSaid : Prop := Claim7.holds Tryd.pinned (.plain (OpenSpec.ofChange fnThreeSpec)) fnThreeCard

/-- THE SECOND FORM's CARD OF 'laws.FnWalks'. -/
def fnWalksUptoCard : Claim7 := { stood := { row := fnWalksUptoRow, standIns := [], harness := (true, "e1e1828e0d237aa5cfaacffc9b06e8b0d0644e10ad5b464a1061123567c3179b"), looks := false }, kinds := [], alts := [], laidByText := true, laidKinds := [.data, .data], laidTests := true, laidLooks := .later }
def FnWalksUptoCardSaid : Prop := Claim7.holds Tryd.pinned (.plain (OpenSpec.upto fnWalksSpec)) fnWalksUptoCard

/-- THE SECOND FORM's CARD OF 'laws.FnWalksSquare'. -/
def fnWalksSquareUptoCard : Claim7 := { stood := { row := fnWalksSquareUptoRow, standIns := [], harness := (true, "e1e1828e0d237aa5cfaacffc9b06e8b0d0644e10ad5b464a1061123567c3179b"), looks := false }, kinds := [], alts := [], laidByText := true, laidKinds := [.data, .data], laidTests := true, laidLooks := .later }
def FnWalksSquareUptoCardSaid : Prop := Claim7.holds Tryd.pinned (.plain (OpenSpec.upto fnWalksSquareSpec)) fnWalksSquareUptoCard

/-- THE SECOND FORM's CARD OF 'laws.FnClosed'. -/
def fnClosedUptoCard : Claim7 := { stood := { row := fnClosedUptoRow, standIns := [], harness := (true, "e1e1828e0d237aa5cfaacffc9b06e8b0d0644e10ad5b464a1061123567c3179b"), looks := false }, kinds := [], alts := [], laidByText := true, laidKinds := [.data, .data], laidTests := true, laidLooks := .later }
def FnClosedUptoCardSaid : Prop := Claim7.holds Tryd.pinned (.plain (OpenSpec.upto fnClosedSpec)) fnClosedUptoCard

/-- THE SECOND FORM's CARD OF 'laws.FnPoly'. -/
def fnPolyUptoCard : Claim7 := { stood := { row := fnPolyUptoRow, standIns := [], harness := (true, "e1e1828e0d237aa5cfaacffc9b06e8b0d0644e10ad5b464a1061123567c3179b"), looks := false }, kinds := [], alts := [], laidByText := true, laidKinds := [.data, .data], laidTests := true, laidLooks := .later }
def FnPolyUptoCardSaid : Prop := Claim7.holds Tryd.pinned (.plain (OpenSpec.upto fnPolySpec)) fnPolyUptoCard

/-- THE SECOND FORM's CARD OF 'laws.FnPolyWalks'. -/
def fnPolyWalksUptoCard : Claim7 := { stood := { row := fnPolyWalksUptoRow, standIns := [], harness := (true, "e1e1828e0d237aa5cfaacffc9b06e8b0d0644e10ad5b464a1061123567c3179b"), looks := false }, kinds := [], alts := [], laidByText := true, laidKinds := [.data, .data], laidTests := true, laidLooks := .later }
def FnPolyWalksUptoCardSaid : Prop := Claim7.holds Tryd.pinned (.plain (OpenSpec.upto fnPolyWalksSpec)) fnPolyWalksUptoCard

/-- THE SECOND FORM's CARD OF 'laws.FnTrees'. -/
def fnTreesUptoCard : Claim7 := { stood := { row := fnTreesUptoRow, standIns := [], harness := (true, "e1e1828e0d237aa5cfaacffc9b06e8b0d0644e10ad5b464a1061123567c3179b"), looks := false }, kinds := [], alts := [], laidByText := true, laidKinds := [.data, .data], laidTests := true, laidLooks := .later }
def FnTreesUptoCardSaid : Prop := Claim7.holds Tryd.pinned (.plain (OpenSpec.upto fnTreesSpec)) fnTreesUptoCard

/-- THE SECOND FORM's CARD OF 'laws.FnThree'. -/
def fnThreeUptoCard : Claim7 := { stood := { row := fnThreeUptoRow, standIns := [], harness := (true, "e1e1828e0d237aa5cfaacffc9b06e8b0d0644e10ad5b464a1061123567c3179b"), looks := false }, kinds := [], alts := [], laidByText := true, laidKinds := [.data, .data], laidTests := true, laidLooks := .later }
def FnThreeUptoCardSaid : Prop := Claim7.holds Tryd.pinned (.plain (OpenSpec.upto fnThreeSpec)) fnThreeUptoCard
end Rows
end Go.Proofs.YtneglpklkmoclaaDoor
