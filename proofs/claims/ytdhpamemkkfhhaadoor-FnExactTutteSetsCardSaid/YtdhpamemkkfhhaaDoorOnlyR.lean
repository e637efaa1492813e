/- Texts in one: SetsTabE, SetsTabF. -/
import Derived.Test.YtdhpamemkkfhhaaDoorSetsTab

/- The table by sets: decided for codes of some blocks of 16. -/

namespace Go.Proofs.YtdhpamemkkfhhaaDoor
open Go Go.RowKit
set_option linter.unusedVariables false
set_option maxRecDepth 100000

theorem setsT_0 : allN (fun c => setsOk (0 + c)) 16 = true := by decide +kernel
theorem setsT_2 : allN (fun c => setsOk (32 + c)) 16 = true := by decide +kernel
theorem setsT_6 : allN (fun c => setsOk (96 + c)) 16 = true := by decide +kernel
theorem setsT_20 : allN (fun c => setsOk (320 + c)) 16 = true := by decide +kernel
theorem setsT_22 : allN (fun c => setsOk (352 + c)) 16 = true := by decide +kernel
theorem setsT_39 : allN (fun c => setsOk (624 + c)) 16 = true := by decide +kernel
theorem setsT_42 : allN (fun c => setsOk (672 + c)) 16 = true := by decide +kernel
theorem setsT_57 : allN (fun c => setsOk (912 + c)) 16 = true := by decide +kernel
theorem setsT_59 : allN (fun c => setsOk (944 + c)) 16 = true := by decide +kernel
end Go.Proofs.YtdhpamemkkfhhaaDoor

/- The table by sets: decided for codes of some blocks of 16. -/

namespace Go.Proofs.YtdhpamemkkfhhaaDoor
open Go Go.RowKit
set_option linter.unusedVariables false
set_option maxRecDepth 100000

theorem setsT_4 : allN (fun c => setsOk (64 + c)) 16 = true := by decide +kernel
theorem setsT_9 : allN (fun c => setsOk (144 + c)) 16 = true := by decide +kernel
theorem setsT_24 : allN (fun c => setsOk (384 + c)) 16 = true := by decide +kernel
theorem setsT_25 : allN (fun c => setsOk (400 + c)) 16 = true := by decide +kernel
theorem setsT_43 : allN (fun c => setsOk (688 + c)) 16 = true := by decide +kernel
theorem setsT_44 : allN (fun c => setsOk (704 + c)) 16 = true := by decide +kernel
theorem setsT_58 : allN (fun c => setsOk (928 + c)) 16 = true := by decide +kernel
theorem setsT_61 : allN (fun c => setsOk (976 + c)) 16 = true := by decide +kernel
end Go.Proofs.YtdhpamemkkfhhaaDoor
