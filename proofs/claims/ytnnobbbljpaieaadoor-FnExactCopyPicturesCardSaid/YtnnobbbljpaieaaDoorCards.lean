/-
  DERIVED. GIVEN WITH THE SEED: THE CARDS: each row of YtnnobbbljpaieaaDoorRows.lean that lists a variable, with what it lists TIED to the program's text (the seventh form; the later family's looks); each row that meets fmt, with fmt's text TOLD by the authors' own Lean function (tested against real Go, not proved from fmt's source: count such statements apart). THE CARD IS WHAT COUNTS. Prove the row's statement (the work); the ties are given (YtnnobbbljpaieaaDoorTie.lean); close each card by the builder's one call (the guide's Derived/Test/ToyasCard.lean, 'card_holds'). Laid BY PROGRAM, IN A SANDBOX (cutbox-door.mjs). By AI agents, Wed Nov 11 2026. No macro, syntax, notation, axiom, sorry.
-/
import Derived.Test.YtnnobbbljpaieaaDoorRows
import GoSem.ClaimSeven
namespace Go.Proofs.YtnnobbbljpaieaaDoor
namespace Rows

/-- THE TIED CARD OF 'laws.FnExactFineSame'. -/
def fnExactFineSameCard : Claim7 := { stood := { row := fnExactFineSameRow, standIns := [], harness := (true, "24199593bbbcd65884ef13a573977bbcc67bf17ef5e9ca7b9797b2318291abc2"), looks := false }, kinds := [], alts := [], laidByText := true, laidKinds := [.data, .data], laidTests := true, laidLooks := .later }
def FnExactFineSameCardSaid : Prop := Claim7.holds Tryd.pinned (.plain (OpenSpec.ofChange fnExactFineSameSpec)) fnExactFineSameCard

/-- THE TIED CARD OF 'laws.FnExactCopyPictures'. -/
def fnExactCopyPicturesCard : Claim7 := { stood := { row := fnExactCopyPicturesRow, standIns := [], harness := (true, "24199593bbbcd65884ef13a573977bbcc67bf17ef5e9ca7b9797b2318291abc2"), looks := false }, kinds := [], alts := [], laidByText := true, laidKinds := [.data, .data], laidTests := true, laidLooks := .later }
def FnExactCopyPicturesCardSaid : Prop := Claim7.holds Tryd.pinned (.plain (OpenSpec.ofChange fnExactCopyPicturesSpec)) fnExactCopyPicturesCard

/-- THE SECOND FORM's CARD OF 'laws.FnExactFineSame'. -/
def fnExactFineSameUptoCard : Claim7 := { stood := { row := fnExactFineSameUptoRow, standIns := [], harness := (true, "24199593bbbcd65884ef13a573977bbcc67bf17ef5e9ca7b9797b2318291abc2"), looks := false }, kinds := [], alts := [], laidByText := true, laidKinds := [.data, .data], laidTests := true, laidLooks := .later }
def FnExactFineSameUptoCardSaid : Prop := Claim7.holds Tryd.pinned (.plain (OpenSpec.upto fnExactFineSameSpec)) fnExactFineSameUptoCard

/-- THE SECOND FORM's CARD OF 'laws.FnExactCopyPictures'. -/
def fnExactCopyPicturesUptoCard : Claim7 := { stood := { row := fnExactCopyPicturesUptoRow, standIns := [], harness := (true, "24199593bbbcd65884ef13a573977bbcc67bf17ef5e9ca7b9797b2318291abc2"), looks := false }, kinds := [], alts := [], laidByText := true, laidKinds := [.data, .data], laidTests := true, laidLooks := .later }
def FnExactCopyPicturesUptoCardSaid : Prop := Claim7.holds Tryd.pinned (.plain (OpenSpec.upto fnExactCopyPicturesSpec)) fnExactCopyPicturesUptoCard
end Rows
end Go.Proofs.YtnnobbbljpaieaaDoor
