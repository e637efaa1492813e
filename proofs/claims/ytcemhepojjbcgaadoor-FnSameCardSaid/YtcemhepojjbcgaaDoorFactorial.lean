/- The law's factorial. -/
import Derived.Test.YtcemhepojjbcgaaDoorManyLaw
namespace Go.Proofs.YtcemhepojjbcgaaDoor
open Go Go.RowKit
set_option linter.unusedVariables false
set_option maxRecDepth 100000

set_option maxHeartbeats 1000000 in
theorem lawFactorial_any (n : Nat) (h1n : 1 ≤ n) (h6 : n ≤ 6) (w : World) : Calls Tryd.prog 33 #[.int .i64 n] w fun e w' => e = .returned (.int .i64 (fac n : Nat)) ∧ w = w' := by
  go_enter Tryd.func33, Tryd.ntmps33
  go_wp2
  go_loop [3, 4] (fun p i => ∃ k : Nat, 1 ≤ k ∧ k ≤ n ∧ i = .int .i64 ((k + 1 : Nat) : Int) ∧ p = .int .i64 (fac k : Nat)) (fun _ i => n + 1 - (intOf i).toNat)
  case atStart => exact ⟨1, Nat.le_refl _, h1n, rfl, rfl⟩
  case round =>
    obtain ⟨k, hk1, hk, rfl, rfl⟩ := hrel
    have h1 := fac_le ⟨k, by omega⟩
    dsimp only at h1
    obtain ⟨x, ex⟩ : ∃ x, x = fac k := ⟨_, rfl⟩
    rw [← ex] at h1
    rw [← ex]
    by_cases hlt : k < n
    · have hst := fac_step k x (by omega) h1 ex
      have EX := Lib.hid ex
      have HST := Lib.hid hst
      clear ex hst
      have hle : decide (((k + 1 : Nat) : Int) ≤ (n : Int)) = true := by simp; omega
      go_wp2
      go_round
      case rel =>
        refine ⟨k + 1, by omega, by omega, by go_num, ?_⟩
        rw [HST.out]
      case measure => simp [intOf]; omega
    · have hke : k = n := by omega
      subst hke
      have EX := Lib.hid ex
      clear ex
      have hle : decide (((k + 1 : Nat) : Int) ≤ (k : Int)) = false := by simp; omega
      go_wp2
      go_ret
      exact ⟨ret_int (by rw [EX.out]), rfl⟩
end Go.Proofs.YtcemhepojjbcgaaDoor
