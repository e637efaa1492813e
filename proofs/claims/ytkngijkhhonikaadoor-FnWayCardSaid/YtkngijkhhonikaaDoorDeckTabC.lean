/- Names that lead from each code of 5 nodes to the first one with its deck. Plain mathematics, no condition. -/
import Derived.Test.YtkngijkhhonikaaDoorDeckTab
namespace Go.Proofs.YtkngijkhhonikaaDoor
set_option linter.unusedVariables false
set_option maxRecDepth 100000

theorem way5_0 : wayOk 5 0 (((tabK5.zip tabW5).drop 0).take 128) = true := by decide +kernel
theorem way5_1 : wayOk 5 128 (((tabK5.zip tabW5).drop 128).take 128) = true := by decide +kernel
theorem way5_2 : wayOk 5 256 (((tabK5.zip tabW5).drop 256).take 128) = true := by decide +kernel
theorem way5_3 : wayOk 5 384 (((tabK5.zip tabW5).drop 384).take 128) = true := by decide +kernel
theorem way5_4 : wayOk 5 512 (((tabK5.zip tabW5).drop 512).take 128) = true := by decide +kernel
theorem way5_5 : wayOk 5 640 (((tabK5.zip tabW5).drop 640).take 128) = true := by decide +kernel
theorem way5_6 : wayOk 5 768 (((tabK5.zip tabW5).drop 768).take 128) = true := by decide +kernel
theorem way5_7 : wayOk 5 896 (((tabK5.zip tabW5).drop 896).take 128) = true := by decide +kernel
end Go.Proofs.YtkngijkhhonikaaDoor
