/- The middles of all trees of up to six nodes: by the kernel, part C. -/
import Derived.Test.YtkngijkhhonikaaDoorMidMath
namespace Go.Proofs.YtkngijkhhonikaaDoor
open Go Go.RowKit
set_option linter.unusedVariables false
set_option maxRecDepth 100000

theorem midC_64 : allP (onTree midC 6) 12 16384 = true := by decide +kernel
theorem midC_65 : allP (onTree midC 6) 12 20480 = true := by decide +kernel
end Go.Proofs.YtkngijkhhonikaaDoor
