/- Ways in all trees of up to six nodes: by the kernel, part A. -/
import Derived.Test.YtkngijkhhonikaaDoorWayMath
namespace Go.Proofs.YtkngijkhhonikaaDoor
open Go Go.RowKit
set_option linter.unusedVariables false
set_option maxRecDepth 100000

theorem wayC_1 : allP (onTree wayC 1) 0 0 = true := by decide +kernel
theorem wayC_2 : allP (onTree wayC 2) 1 0 = true := by decide +kernel
theorem wayC_3 : allP (onTree wayC 3) 3 0 = true := by decide +kernel
theorem wayC_4 : allP (onTree wayC 4) 6 0 = true := by decide +kernel
theorem wayC_5 : allP (onTree wayC 5) 10 0 = true := by decide +kernel
theorem wayC_60_0 : allP (onTree wayC 6) 10 0 = true := by decide +kernel
theorem wayC_60_1 : allP (onTree wayC 6) 10 1024 = true := by decide +kernel
theorem wayC_60_2 : allP (onTree wayC 6) 10 2048 = true := by decide +kernel
theorem wayC_60_3 : allP (onTree wayC 6) 10 3072 = true := by decide +kernel
theorem wayC_60 : allP (onTree wayC 6) 12 0 = true := allP_four wayC_60_0 wayC_60_1 wayC_60_2 wayC_60_3
end Go.Proofs.YtkngijkhhonikaaDoor
