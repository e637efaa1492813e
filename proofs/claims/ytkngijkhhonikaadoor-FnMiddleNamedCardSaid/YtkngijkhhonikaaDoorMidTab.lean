/- The middles of all trees. -/
import Derived.Test.YtkngijkhhonikaaDoorMidTabA
import Derived.Test.YtkngijkhhonikaaDoorMidTabB
import Derived.Test.YtkngijkhhonikaaDoorMidTabC
import Derived.Test.YtkngijkhhonikaaDoorMidTabD
namespace Go.Proofs.YtkngijkhhonikaaDoor
open Go Go.RowKit
set_option linter.unusedVariables false

theorem mid_facts {L : List Int} (h : IsTree L) : midOk L 2 (2 ^ L.length - 1) = true ∧ midT L = (mdT L L.length).2 := by
  have h1 := by_trees midC_1 midC_2 midC_3 midC_4 midC_5 midC_60 midC_61 midC_62 midC_63 midC_64 midC_65 midC_66 midC_67 h
  unfold midC at h1
  rw [Bool.and_eq_true] at h1
  exact ⟨h1.1, Nat.eq_of_beq_eq_true h1.2⟩
end Go.Proofs.YtkngijkhhonikaaDoor
