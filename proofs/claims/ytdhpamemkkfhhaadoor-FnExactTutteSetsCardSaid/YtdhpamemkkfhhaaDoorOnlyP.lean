/- Texts in one: SetsTabA, SetsTabB. -/
import Derived.Test.YtdhpamemkkfhhaaDoorSetsTab

/- The table by sets: decided for codes of some blocks of 16. -/

namespace Go.Proofs.YtdhpamemkkfhhaaDoor
open Go Go.RowKit
set_option linter.unusedVariables false
set_option maxRecDepth 100000

theorem setsT_13 : allN (fun c => setsOk (208 + c)) 16 = true := by decide +kernel
theorem setsT_35 : allN (fun c => setsOk (560 + c)) 16 = true := by decide +kernel
theorem setsT_36 : allN (fun c => setsOk (576 + c)) 16 = true := by decide +kernel
theorem setsT_52 : allN (fun c => setsOk (832 + c)) 16 = true := by decide +kernel
theorem setsT_63 : allN (fun c => setsOk (1008 + c)) 16 = true := by decide +kernel
end Go.Proofs.YtdhpamemkkfhhaaDoor

/- The table by sets: decided for codes of some blocks of 16. -/

namespace Go.Proofs.YtdhpamemkkfhhaaDoor
open Go Go.RowKit
set_option linter.unusedVariables false
set_option maxRecDepth 100000

theorem setsT_14 : allN (fun c => setsOk (224 + c)) 16 = true := by decide +kernel
theorem setsT_27 : allN (fun c => setsOk (432 + c)) 16 = true := by decide +kernel
theorem setsT_31 : allN (fun c => setsOk (496 + c)) 16 = true := by decide +kernel
theorem setsT_37 : allN (fun c => setsOk (592 + c)) 16 = true := by decide +kernel
theorem setsT_40 : allN (fun c => setsOk (640 + c)) 16 = true := by decide +kernel
theorem setsT_51 : allN (fun c => setsOk (816 + c)) 16 = true := by decide +kernel
theorem setsT_56 : allN (fun c => setsOk (896 + c)) 16 = true := by decide +kernel
end Go.Proofs.YtdhpamemkkfhhaaDoor
