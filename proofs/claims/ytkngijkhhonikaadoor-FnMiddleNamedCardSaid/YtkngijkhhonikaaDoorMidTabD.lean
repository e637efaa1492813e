/- The middles of all trees of up to six nodes: by the kernel, part D. -/
import Derived.Test.YtkngijkhhonikaaDoorMidMath
namespace Go.Proofs.YtkngijkhhonikaaDoor
open Go Go.RowKit
set_option linter.unusedVariables false
set_option maxRecDepth 100000

theorem midC_66 : allP (onTree midC 6) 12 24576 = true := by decide +kernel
theorem midC_67 : allP (onTree midC 6) 12 28672 = true := by decide +kernel
end Go.Proofs.YtkngijkhhonikaaDoor
