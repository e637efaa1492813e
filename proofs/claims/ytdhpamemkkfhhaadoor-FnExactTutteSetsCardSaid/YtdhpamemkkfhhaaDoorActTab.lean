/- The two ways of counting active edges agree: all forests of five nodes. -/
import Derived.Test.YtdhpamemkkfhhaaDoorActMath
namespace Go.Proofs.YtdhpamemkkfhhaaDoor
open Go Go.RowKit
set_option linter.unusedVariables false
set_option maxRecDepth 100000

theorem act_0 : allN (fun F => actOk (0 + F)) 128 = true := by decide +kernel
theorem act_1 : allN (fun F => actOk (128 + F)) 128 = true := by decide +kernel
theorem act_2 : allN (fun F => actOk (256 + F)) 128 = true := by decide +kernel
theorem act_3 : allN (fun F => actOk (384 + F)) 128 = true := by decide +kernel
theorem act_4 : allN (fun F => actOk (512 + F)) 128 = true := by decide +kernel
theorem act_5 : allN (fun F => actOk (640 + F)) 128 = true := by decide +kernel
theorem act_6 : allN (fun F => actOk (768 + F)) 128 = true := by decide +kernel
theorem act_7 : allN (fun F => actOk (896 + F)) 128 = true := by decide +kernel
theorem act_eq {C F : Nat} (hC : C < 1024) (hF : F < 1024) (hs : F &&& C = F) (hf : forB C F = true) : actP C F = actTo C F 10 := by
  have hok : actOk F = true := by
    have h : ∀ k, k < 8 → ∀ r, r < 128 → actOk (128 * k + r) = true := fun k hk r hr => by
      obtain rfl | rfl | rfl | rfl | rfl | rfl | rfl | rfl : k = 0 ∨ k = 1 ∨ k = 2 ∨ k = 3 ∨ k = 4 ∨ k = 5 ∨ k = 6 ∨ k = 7 := by omega
      · exact allN_spec act_0 r hr
      · exact allN_spec act_1 r hr
      · exact allN_spec act_2 r hr
      · exact allN_spec act_3 r hr
      · exact allN_spec act_4 r hr
      · exact allN_spec act_5 r hr
      · exact allN_spec act_6 r hr
      · exact allN_spec act_7 r hr
    have := h (F / 128) (by omega) (F % 128) (by omega)
    rwa [show 128 * (F / 128) + F % 128 = F by omega] at this
  unfold forB at hf
  rw [Bool.and_eq_true, beq_iff_eq, beq_iff_eq] at hf
  unfold actOk at hok
  rw [if_pos (by rw [hf.1, hf.2]; exact beq_self_eq_true _)] at hok
  have h := allN_spec hok C hC
  rw [if_pos (by rw [hs]; exact beq_self_eq_true _), if_pos (by rw [hf.2]; exact beq_self_eq_true _)] at h
  exact eq_of_beq h
end Go.Proofs.YtdhpamemkkfhhaaDoor
