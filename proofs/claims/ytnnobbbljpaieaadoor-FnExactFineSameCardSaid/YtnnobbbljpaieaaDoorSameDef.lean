/- Whether two graphs of as many nodes are not told apart by colours. -/
import Derived.Test.YtnnobbbljpaieaaDoorJoinMath
import Derived.Test.YtnnobbbljpaieaaDoorPlainZero
namespace Go.Proofs.YtnnobbbljpaieaaDoor
open Go Go.RowKit
set_option linter.unusedVariables false

def endJ (L M : List Int) : List Int := endZ (joinL L M)
def sameC (L M : List Int) : Bool := decide (sortL ((endJ L M).take L.length) = sortL ((endJ L M).drop L.length))
open Classical in
noncomputable def sameSaid (L M : List Int) : Bool := if IsGraph L ∧ IsGraph M ∧ L.length = M.length then sameC L M else false
theorem sameSaid_yes {L M : List Int} (h : IsGraph L ∧ IsGraph M ∧ L.length = M.length) : sameSaid L M = sameC L M := if_pos h
theorem sameSaid_no {L M : List Int} (h : ¬ (IsGraph L ∧ IsGraph M ∧ L.length = M.length)) : sameSaid L M = false := if_neg h
theorem endJ_length (L M : List Int) : (endJ L M).length = L.length + M.length := by unfold endJ; rw [endZ_length, joinL_length]
end Go.Proofs.YtnnobbbljpaieaaDoor
