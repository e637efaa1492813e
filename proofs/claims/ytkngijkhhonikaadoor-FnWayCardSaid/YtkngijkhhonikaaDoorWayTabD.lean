/- Ways in all trees of up to six nodes: by the kernel, part D. -/
import Derived.Test.YtkngijkhhonikaaDoorWayMath
namespace Go.Proofs.YtkngijkhhonikaaDoor
open Go Go.RowKit
set_option linter.unusedVariables false
set_option maxRecDepth 100000

theorem wayC_65_0 : allP (onTree wayC 6) 10 20480 = true := by decide +kernel
theorem wayC_65_1 : allP (onTree wayC 6) 10 21504 = true := by decide +kernel
theorem wayC_65_2 : allP (onTree wayC 6) 10 22528 = true := by decide +kernel
theorem wayC_65_3 : allP (onTree wayC 6) 10 23552 = true := by decide +kernel
theorem wayC_65 : allP (onTree wayC 6) 12 20480 = true := allP_four wayC_65_0 wayC_65_1 wayC_65_2 wayC_65_3
theorem wayC_66_0 : allP (onTree wayC 6) 10 24576 = true := by decide +kernel
theorem wayC_66_1 : allP (onTree wayC 6) 10 25600 = true := by decide +kernel
theorem wayC_66_2 : allP (onTree wayC 6) 10 26624 = true := by decide +kernel
theorem wayC_66_3 : allP (onTree wayC 6) 10 27648 = true := by decide +kernel
theorem wayC_66 : allP (onTree wayC 6) 12 24576 = true := allP_four wayC_66_0 wayC_66_1 wayC_66_2 wayC_66_3
theorem wayC_67_0 : allP (onTree wayC 6) 10 28672 = true := by decide +kernel
theorem wayC_67_1 : allP (onTree wayC 6) 10 29696 = true := by decide +kernel
theorem wayC_67_2 : allP (onTree wayC 6) 10 30720 = true := by decide +kernel
theorem wayC_67_3 : allP (onTree wayC 6) 10 31744 = true := by decide +kernel
theorem wayC_67 : allP (onTree wayC 6) 12 28672 = true := allP_four wayC_67_0 wayC_67_1 wayC_67_2 wayC_67_3
end Go.Proofs.YtkngijkhhonikaaDoor
