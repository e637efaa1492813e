/- Texts in one: SetsTabC, SetsTabD. -/
import Derived.Test.YtdhpamemkkfhhaaDoorSetsTab

/- The table by sets: decided for codes of some blocks of 16. -/

namespace Go.Proofs.YtdhpamemkkfhhaaDoor
open Go Go.RowKit
set_option linter.unusedVariables false
set_option maxRecDepth 100000

theorem setsT_3 : allN (fun c => setsOk (48 + c)) 16 = true := by decide +kernel
theorem setsT_17 : allN (fun c => setsOk (272 + c)) 16 = true := by decide +kernel
theorem setsT_19 : allN (fun c => setsOk (304 + c)) 16 = true := by decide +kernel
theorem setsT_29 : allN (fun c => setsOk (464 + c)) 16 = true := by decide +kernel
theorem setsT_38 : allN (fun c => setsOk (608 + c)) 16 = true := by decide +kernel
theorem setsT_47 : allN (fun c => setsOk (752 + c)) 16 = true := by decide +kernel
theorem setsT_48 : allN (fun c => setsOk (768 + c)) 16 = true := by decide +kernel
theorem setsT_53 : allN (fun c => setsOk (848 + c)) 16 = true := by decide +kernel
end Go.Proofs.YtdhpamemkkfhhaaDoor

/- The table by sets: decided for codes of some blocks of 16. -/

namespace Go.Proofs.YtdhpamemkkfhhaaDoor
open Go Go.RowKit
set_option linter.unusedVariables false
set_option maxRecDepth 100000

theorem setsT_1 : allN (fun c => setsOk (16 + c)) 16 = true := by decide +kernel
theorem setsT_5 : allN (fun c => setsOk (80 + c)) 16 = true := by decide +kernel
theorem setsT_18 : allN (fun c => setsOk (288 + c)) 16 = true := by decide +kernel
theorem setsT_21 : allN (fun c => setsOk (336 + c)) 16 = true := by decide +kernel
theorem setsT_30 : allN (fun c => setsOk (480 + c)) 16 = true := by decide +kernel
theorem setsT_32 : allN (fun c => setsOk (512 + c)) 16 = true := by decide +kernel
theorem setsT_41 : allN (fun c => setsOk (656 + c)) 16 = true := by decide +kernel
theorem setsT_54 : allN (fun c => setsOk (864 + c)) 16 = true := by decide +kernel
theorem setsT_55 : allN (fun c => setsOk (880 + c)) 16 = true := by decide +kernel
end Go.Proofs.YtdhpamemkkfhhaaDoor
