/- The first codes of 5 nodes are least ones, the others. Plain mathematics, no condition. -/
import Derived.Test.YtkngijkhhonikaaDoorDeckTab
namespace Go.Proofs.YtkngijkhhonikaaDoor
set_option linter.unusedVariables false
set_option maxRecDepth 100000

theorem own5_5 : ownOk 5 ((firsts5.drop 20).take 4) = true := by decide +kernel
theorem own5_6 : ownOk 5 ((firsts5.drop 24).take 4) = true := by decide +kernel
theorem own5_7 : ownOk 5 ((firsts5.drop 28).take 4) = true := by decide +kernel
theorem own5_8 : ownOk 5 ((firsts5.drop 32).take 4) = true := by decide +kernel
end Go.Proofs.YtkngijkhhonikaaDoor
