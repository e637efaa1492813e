/- The middles of all trees of up to six nodes: by the kernel, part B. -/
import Derived.Test.YtkngijkhhonikaaDoorMidMath
namespace Go.Proofs.YtkngijkhhonikaaDoor
open Go Go.RowKit
set_option linter.unusedVariables false
set_option maxRecDepth 100000

theorem midC_61 : allP (onTree midC 6) 12 4096 = true := by decide +kernel
theorem midC_62 : allP (onTree midC 6) 12 8192 = true := by decide +kernel
theorem midC_63 : allP (onTree midC 6) 12 12288 = true := by decide +kernel
end Go.Proofs.YtkngijkhhonikaaDoor
