/- The first codes of 5 nodes are least ones. Plain mathematics, no condition. -/
import Derived.Test.YtkngijkhhonikaaDoorDeckTab
namespace Go.Proofs.YtkngijkhhonikaaDoor
set_option linter.unusedVariables false
set_option maxRecDepth 100000

theorem own5_0 : ownOk 5 ((firsts5.drop 0).take 4) = true := by decide +kernel
theorem own5_1 : ownOk 5 ((firsts5.drop 4).take 4) = true := by decide +kernel
theorem own5_2 : ownOk 5 ((firsts5.drop 8).take 4) = true := by decide +kernel
theorem own5_3 : ownOk 5 ((firsts5.drop 12).take 4) = true := by decide +kernel
theorem own5_4 : ownOk 5 ((firsts5.drop 16).take 4) = true := by decide +kernel
end Go.Proofs.YtkngijkhhonikaaDoor
