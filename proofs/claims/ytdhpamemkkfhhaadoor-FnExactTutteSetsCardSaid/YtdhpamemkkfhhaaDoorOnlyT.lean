/- Texts in one: SetsSub, SetsTabG, SetsTabH. -/
import Derived.Test.YtdhpamemkkfhhaaDoorSetsTab

/- The table by sets: ranks of the sets on the model's walk. -/

namespace Go.Proofs.YtdhpamemkkfhhaaDoor
open Go Go.RowKit
set_option linter.unusedVariables false
set_option maxRecDepth 100000

def okAtR (C s : Nat) : Bool := decide (rkT s ≤ rkT C) && decide (pcf 15 s - rkT s ≤ pcf 15 C - rkT C)
def okFromR (C : Nat) : Nat → Nat → Bool
  | 0, _ => false
  | f + 1, s => okAtR C s && (if s = 0 then true else okFromR C f ((s - 1) &&& C))
theorem setsR_0 : allN (fun c => okFromR (0 + c) 1024 (0 + c)) 128 = true := by decide +kernel
theorem setsR_1 : allN (fun c => okFromR (128 + c) 1024 (128 + c)) 128 = true := by decide +kernel
theorem setsR_2 : allN (fun c => okFromR (256 + c) 1024 (256 + c)) 128 = true := by decide +kernel
theorem setsR_3 : allN (fun c => okFromR (384 + c) 1024 (384 + c)) 128 = true := by decide +kernel
theorem setsR_4 : allN (fun c => okFromR (512 + c) 1024 (512 + c)) 128 = true := by decide +kernel
theorem setsR_5 : allN (fun c => okFromR (640 + c) 1024 (640 + c)) 128 = true := by decide +kernel
theorem setsR_6 : allN (fun c => okFromR (768 + c) 1024 (768 + c)) 128 = true := by decide +kernel
theorem setsR_7 : allN (fun c => okFromR (896 + c) 1024 (896 + c)) 128 = true := by decide +kernel
theorem setsR_ok {C : Nat} (hC : C < 1024) : okFromR C 1024 C = true := by
  have h : ∀ k, k < 8 → ∀ r, r < 128 → okFromR (128 * k + r) 1024 (128 * k + r) = true := fun k hk r hr => by
    obtain rfl | rfl | rfl | rfl | rfl | rfl | rfl | rfl : k = 0 ∨ k = 1 ∨ k = 2 ∨ k = 3 ∨ k = 4 ∨ k = 5 ∨ k = 6 ∨ k = 7 := by omega
    · exact allN_spec setsR_0 r hr
    · exact allN_spec setsR_1 r hr
    · exact allN_spec setsR_2 r hr
    · exact allN_spec setsR_3 r hr
    · exact allN_spec setsR_4 r hr
    · exact allN_spec setsR_5 r hr
    · exact allN_spec setsR_6 r hr
    · exact allN_spec setsR_7 r hr
  have := h (C / 128) (by omega) (C % 128) (by omega)
  rwa [show 128 * (C / 128) + C % 128 = C by omega] at this
end Go.Proofs.YtdhpamemkkfhhaaDoor

/- The table by sets: decided for codes of some blocks of 16. -/

namespace Go.Proofs.YtdhpamemkkfhhaaDoor
open Go Go.RowKit
set_option linter.unusedVariables false
set_option maxRecDepth 100000

theorem setsT_8 : allN (fun c => setsOk (128 + c)) 16 = true := by decide +kernel
theorem setsT_10 : allN (fun c => setsOk (160 + c)) 16 = true := by decide +kernel
theorem setsT_26 : allN (fun c => setsOk (416 + c)) 16 = true := by decide +kernel
theorem setsT_33 : allN (fun c => setsOk (528 + c)) 16 = true := by decide +kernel
theorem setsT_45 : allN (fun c => setsOk (720 + c)) 16 = true := by decide +kernel
theorem setsT_49 : allN (fun c => setsOk (784 + c)) 16 = true := by decide +kernel
theorem setsT_60 : allN (fun c => setsOk (960 + c)) 16 = true := by decide +kernel
theorem setsT_62 : allN (fun c => setsOk (992 + c)) 16 = true := by decide +kernel
end Go.Proofs.YtdhpamemkkfhhaaDoor

/- The table by sets: decided for codes of some blocks of 16. -/

namespace Go.Proofs.YtdhpamemkkfhhaaDoor
open Go Go.RowKit
set_option linter.unusedVariables false
set_option maxRecDepth 100000

theorem setsT_7 : allN (fun c => setsOk (112 + c)) 16 = true := by decide +kernel
theorem setsT_11 : allN (fun c => setsOk (176 + c)) 16 = true := by decide +kernel
theorem setsT_12 : allN (fun c => setsOk (192 + c)) 16 = true := by decide +kernel
theorem setsT_15 : allN (fun c => setsOk (240 + c)) 16 = true := by decide +kernel
theorem setsT_16 : allN (fun c => setsOk (256 + c)) 16 = true := by decide +kernel
theorem setsT_23 : allN (fun c => setsOk (368 + c)) 16 = true := by decide +kernel
theorem setsT_28 : allN (fun c => setsOk (448 + c)) 16 = true := by decide +kernel
theorem setsT_34 : allN (fun c => setsOk (544 + c)) 16 = true := by decide +kernel
theorem setsT_46 : allN (fun c => setsOk (736 + c)) 16 = true := by decide +kernel
theorem setsT_50 : allN (fun c => setsOk (800 + c)) 16 = true := by decide +kernel
end Go.Proofs.YtdhpamemkkfhhaaDoor
