/- The middles of all trees of up to six nodes: by the kernel, part A. -/
import Derived.Test.YtkngijkhhonikaaDoorMidMath
namespace Go.Proofs.YtkngijkhhonikaaDoor
open Go Go.RowKit
set_option linter.unusedVariables false
set_option maxRecDepth 100000

theorem midC_1 : allP (onTree midC 1) 0 0 = true := by decide +kernel
theorem midC_2 : allP (onTree midC 2) 1 0 = true := by decide +kernel
theorem midC_3 : allP (onTree midC 3) 3 0 = true := by decide +kernel
theorem midC_4 : allP (onTree midC 4) 6 0 = true := by decide +kernel
theorem midC_5 : allP (onTree midC 5) 10 0 = true := by decide +kernel
theorem midC_60 : allP (onTree midC 6) 12 0 = true := by decide +kernel
end Go.Proofs.YtkngijkhhonikaaDoor
