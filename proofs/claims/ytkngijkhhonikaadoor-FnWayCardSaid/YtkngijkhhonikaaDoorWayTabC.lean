/- Ways in all trees of up to six nodes: by the kernel, part C. -/
import Derived.Test.YtkngijkhhonikaaDoorWayMath
namespace Go.Proofs.YtkngijkhhonikaaDoor
open Go Go.RowKit
set_option linter.unusedVariables false
set_option maxRecDepth 100000

theorem wayC_63_0 : allP (onTree wayC 6) 10 12288 = true := by decide +kernel
theorem wayC_63_1 : allP (onTree wayC 6) 10 13312 = true := by decide +kernel
theorem wayC_63_2 : allP (onTree wayC 6) 10 14336 = true := by decide +kernel
theorem wayC_63_3 : allP (onTree wayC 6) 10 15360 = true := by decide +kernel
theorem wayC_63 : allP (onTree wayC 6) 12 12288 = true := allP_four wayC_63_0 wayC_63_1 wayC_63_2 wayC_63_3
theorem wayC_64_0 : allP (onTree wayC 6) 10 16384 = true := by decide +kernel
theorem wayC_64_1 : allP (onTree wayC 6) 10 17408 = true := by decide +kernel
theorem wayC_64_2 : allP (onTree wayC 6) 10 18432 = true := by decide +kernel
theorem wayC_64_3 : allP (onTree wayC 6) 10 19456 = true := by decide +kernel
theorem wayC_64 : allP (onTree wayC 6) 12 16384 = true := allP_four wayC_64_0 wayC_64_1 wayC_64_2 wayC_64_3
end Go.Proofs.YtkngijkhhonikaaDoor
