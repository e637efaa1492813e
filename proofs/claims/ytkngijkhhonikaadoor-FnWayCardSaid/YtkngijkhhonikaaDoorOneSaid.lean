/- What is told of a graph: a number, or 0 and false. -/
import Derived.Test.YtkngijkhhonikaaDoorBaseA
namespace Go.Proofs.YtkngijkhhonikaaDoor
open Go Go.RowKit
set_option linter.unusedVariables false
set_option maxRecDepth 100000

open Classical in
noncomputable def oneSaid (f : List Int → Nat) (L : List Int) : Nat × Bool := if IsGraph L then (f L, true) else (0, false)
theorem oneSaid_yes {f : List Int → Nat} {L : List Int} (h : IsGraph L) : oneSaid f L = (f L, true) := if_pos h
theorem oneSaid_no {f : List Int → Nat} {L : List Int} (h : ¬ IsGraph L) : oneSaid f L = (0, false) := if_neg h

end Go.Proofs.YtkngijkhhonikaaDoor
