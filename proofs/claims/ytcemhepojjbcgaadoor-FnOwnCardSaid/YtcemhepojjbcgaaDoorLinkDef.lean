/- What it is to be linked. -/
import Derived.Test.YtcemhepojjbcgaaDoorLinkMath
import Derived.Test.YtcemhepojjbcgaaDoorBaseA
namespace Go.Proofs.YtcemhepojjbcgaaDoor
open Go Go.RowKit
set_option linter.unusedVariables false

theorem bit_test2 (s y : Nat) : s.testBit y = true ↔ s / 2 ^ y % 2 = 1 := by rw [Nat.testBit_eq_decide_div_mod_eq, decide_eq_true_eq]
def IsLinked (L : List Int) : Prop := IsGraph L ∧ turns L L.length = 2 ^ L.length - 1
end Go.Proofs.YtcemhepojjbcgaaDoor
