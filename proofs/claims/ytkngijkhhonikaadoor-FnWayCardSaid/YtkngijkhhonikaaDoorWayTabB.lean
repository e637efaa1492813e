/- Ways in all trees of up to six nodes: by the kernel, part B. -/
import Derived.Test.YtkngijkhhonikaaDoorWayMath
namespace Go.Proofs.YtkngijkhhonikaaDoor
open Go Go.RowKit
set_option linter.unusedVariables false
set_option maxRecDepth 100000

theorem wayC_61_0 : allP (onTree wayC 6) 10 4096 = true := by decide +kernel
theorem wayC_61_1 : allP (onTree wayC 6) 10 5120 = true := by decide +kernel
theorem wayC_61_2 : allP (onTree wayC 6) 10 6144 = true := by decide +kernel
theorem wayC_61_3 : allP (onTree wayC 6) 10 7168 = true := by decide +kernel
theorem wayC_61 : allP (onTree wayC 6) 12 4096 = true := allP_four wayC_61_0 wayC_61_1 wayC_61_2 wayC_61_3
theorem wayC_62_0 : allP (onTree wayC 6) 10 8192 = true := by decide +kernel
theorem wayC_62_1 : allP (onTree wayC 6) 10 9216 = true := by decide +kernel
theorem wayC_62_2 : allP (onTree wayC 6) 10 10240 = true := by decide +kernel
theorem wayC_62_3 : allP (onTree wayC 6) 10 11264 = true := by decide +kernel
theorem wayC_62 : allP (onTree wayC 6) 12 8192 = true := allP_four wayC_62_0 wayC_62_1 wayC_62_2 wayC_62_3
end Go.Proofs.YtkngijkhhonikaaDoor
