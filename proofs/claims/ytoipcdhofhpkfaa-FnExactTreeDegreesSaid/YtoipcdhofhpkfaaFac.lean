/- The factorial; quotients of small numbers. -/
import Derived.Test.YtoipcdhofhpkfaaBaseA
namespace Go.Proofs.Ytoipcdhofhpkfaa
open Go Go.RowKit
set_option linter.unusedVariables false
set_option maxRecDepth 100000

def fac : Nat → Nat
  | 0 => 1
  | k + 1 => fac k * (k + 1)
theorem fac_le : ∀ k : Fin 7, fac k.val ≤ 720 := by decide
theorem fac_step (k x : Nat) (hk : k ≤ 6) (h1 : x ≤ 720) (ex : x = fac k) : wrap64 ((x : Int) * ((k : Int) + 1)) = (fac (k + 1) : Nat) := by
  have e : (x : Int) * ((k : Int) + 1) = ((x * (k + 1) : Nat) : Int) := by rw [Int.natCast_mul]; rfl
  have hz : x * (k + 1) ≤ 720 * 7 := Nat.mul_le_mul h1 (by omega)
  have ef : fac (k + 1) = x * (k + 1) := by rw [ex]; rfl
  rw [e, ef]
  obtain ⟨z, ez⟩ : ∃ z, z = x * (k + 1) := ⟨_, rfl⟩
  rw [← ez] at hz ⊢
  clear e ef ez
  unfold wrap64
  omega
theorem quo_small (x y : Nat) (h : x ≤ 720) : wrap64 ((x : Int) / (y : Int)) = ((x / y : Nat) : Int) := by
  have e : (x : Int) / (y : Int) = ((x / y : Nat) : Int) := by rw [Int.natCast_ediv]
  have hz : x / y ≤ x := Nat.div_le_self _ _
  rw [e]
  obtain ⟨z, ez⟩ : ∃ z, z = x / y := ⟨_, rfl⟩
  rw [← ez] at hz ⊢
  clear e ez
  unfold wrap64
  omega
set_option maxHeartbeats 1000000 in
theorem factorial_any (n : Nat) (h6 : n ≤ 6) (w : World) : Calls Try.prog 15 #[.int .i64 n] w fun e w' => e = .returned (.int .i64 (fac n : Nat)) ∧ w = w' := by
  go_enter Try.func15, Try.ntmps15
  go_wp2
  go_loop [3, 6] (fun p i => ∃ k : Nat, k ≤ n ∧ i = .int .i64 k ∧ p = .int .i64 (fac k : Nat)) (fun _ i => n - (intOf i).toNat)
  case atStart => exact ⟨0, Nat.zero_le _, rfl, rfl⟩
  case round =>
    obtain ⟨k, hk, rfl, rfl⟩ := hrel
    have h1 := fac_le ⟨k, by omega⟩
    dsimp only at h1
    obtain ⟨x, ex⟩ : ∃ x, x = fac k := ⟨_, rfl⟩
    rw [← ex] at h1
    rw [← ex]
    have EX := Lib.hid ex
    clear ex
    by_cases hlt : k < n
    · go_wp2
      go_round
      case rel =>
        refine ⟨k + 1, by omega, by go_num, ?_⟩
        rw [fac_step k x (by omega) h1 EX.out]
      case measure => simp [intOf]; omega
    · have hke : k = n := by omega
      subst hke
      go_wp2
      go_ret
      exact ⟨ret_int (by rw [EX.out]), rfl⟩

end Go.Proofs.Ytoipcdhofhpkfaa
