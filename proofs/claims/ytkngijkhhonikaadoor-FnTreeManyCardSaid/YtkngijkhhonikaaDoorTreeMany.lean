/- How many trees there are of n nodes: the program and the model multiply; the law FnExactTreeMany returns true at each number. -/
import Derived.Test.YtkngijkhhonikaaDoorBaseA
namespace Go.Proofs.YtkngijkhhonikaaDoor
open Go Go.RowKit
set_option linter.unusedVariables false
set_option maxRecDepth 100000

def manyT (z : Int) : Nat × Bool := if 1 ≤ z ∧ z ≤ 6 then (z.toNat ^ (z.toNat - 2), true) else (0, false)
theorem manyT_yes {n : Nat} (h1 : 1 ≤ n) (h6 : n ≤ 6) : manyT (n : Nat) = (n ^ (n - 2), true) := by
  unfold manyT
  rw [if_pos (by omega), Int.toNat_natCast]
theorem manyT_no {z : Int} (h : ¬ (1 ≤ z ∧ z ≤ 6)) : manyT z = (0, false) := if_neg h
/-- How a call that only looks, and tells a number and a bool, ends. -/
def ManyP (w : World) (p : Nat × Bool) (e : Ending) (w' : World) : Prop := e = .returned (.tuple #[.int .i64 (p.1 : Nat), .bool p.2]) ∧ w = w'
theorem pw_all : ∀ n : Fin 7, ∀ k : Fin 5, n.val ^ k.val ≤ 1296 ∧ n.val ^ (k.val + 1) = n.val ^ k.val * n.val := by decide
theorem pw_step (n k x : Nat) (hn : n ≤ 6) (hk : k ≤ 4) (ex : x = n ^ k) : wrap64 ((x : Int) * (n : Int)) = ((n ^ (k + 1) : Nat) : Int) := by
  have h := pw_all ⟨n, by omega⟩ ⟨k, by omega⟩
  dsimp only at h
  rw [h.2, ← ex]
  rw [← ex] at h
  have hz : x * n ≤ 1296 * 6 := Nat.mul_le_mul h.1 hn
  rw [← Int.natCast_mul]
  obtain ⟨z, ez⟩ : ∃ z, z = x * n := ⟨_, rfl⟩
  rw [← ez] at hz ⊢
  clear h ez
  unfold wrap64
  omega

set_option maxHeartbeats 1000000 in
theorem implMany_yes (n : Nat) (h1 : 1 ≤ n) (h6 : n ≤ 6) (w : World) : Calls Tryd.prog 17 #[.int .i64 n] w (ManyP w (n ^ (n - 2), true)) := by
  have hw : wrap64 ((n : Int) - 2) = (n : Int) - 2 := by unfold wrap64; omega
  have hd1 : decide ((n : Int) < 1) = false := by simp; omega
  have hd2 : decide ((6 : Int) < (n : Int)) = false := by simp; omega
  go_enter Tryd.func17, Tryd.ntmps17
  go_wp2
  go_loop [4, 13] (fun p i => ∃ k : Nat, (k = 0 ∨ k + 2 ≤ n) ∧ i = .int .i64 k ∧ p = .int .i64 (n ^ k : Nat)) (fun _ i => n - (intOf i).toNat)
  case atStart => exact ⟨0, .inl rfl, rfl, rfl⟩
  case round =>
    obtain ⟨k, hk, rfl, rfl⟩ := hrel
    obtain ⟨x, ex⟩ : ∃ x, x = n ^ k := ⟨_, rfl⟩
    rw [← ex]
    have EX := Lib.hid ex
    clear ex
    by_cases hlt : k + 2 < n
    · have hd : decide ((k : Int) < (n : Int) - 2) = true := by simp; omega
      have hs := pw_step n k x h6 (by omega) EX.out
      go_wp2
      go_round
      case rel => exact ⟨k + 1, .inr (by omega), by go_num, by rw [hs]⟩
      case measure => simp [intOf]; omega
    · have hd : decide ((k : Int) < (n : Int) - 2) = false := by simp; omega
      have hke : k = n - 2 := by omega
      have HK := Lib.hid hke
      clear hke
      go_wp2
      go_ret2
      exact ⟨by rw [EX.out, HK.out]; rfl, rfl⟩
theorem implMany_no (z : Int) (h : ¬ (1 ≤ z ∧ z ≤ 6)) (w : World) : Calls Tryd.prog 17 #[.int .i64 z] w (ManyP w (0, false)) := by
  by_cases h1 : z < 1
  · have hd1 : decide (z < 1) = true := by simp; omega
    go_enter Tryd.func17, Tryd.ntmps17
    go_wp2
    go_ret2
    exact ⟨rfl, rfl⟩
  · have hd1 : decide (z < 1) = false := by simp; omega
    have hd2 : decide (6 < z) = true := by simp; omega
    go_enter Tryd.func17, Tryd.ntmps17
    go_wp2
    go_ret2
    exact ⟨rfl, rfl⟩
theorem implMany_any (z : Int) (w : World) : Calls Tryd.prog 17 #[.int .i64 z] w (ManyP w (manyT z)) := by
  by_cases h : 1 ≤ z ∧ z ≤ 6
  · obtain ⟨n, rfl⟩ : ∃ n : Nat, z = (n : Int) := ⟨z.toNat, by omega⟩
    rw [manyT_yes (by omega) (by omega)]
    exact implMany_yes n (by omega) (by omega) w
  · rw [manyT_no h]
    exact implMany_no z h w

set_option maxHeartbeats 1000000 in
theorem specMany_yes (n : Nat) (h1 : 1 ≤ n) (h6 : n ≤ 6) (w : World) : Calls Tryd.prog 18 #[.int .i64 n] w (ManyP w (n ^ (n - 2), true)) := by
  go_enter Tryd.func18, Tryd.ntmps18
  go_wp2_with fail
  refine (in_yes _ _ _ _ (by omega) (by omega)).mono ?_
  rintro e w1 ⟨rfl, rfl⟩
  go_wp2
  go_loop [4, 5] (fun p i => ∃ k : Nat, (k = 0 ∨ k + 2 ≤ n) ∧ i = .int .i64 ((k : Int) + 2) ∧ p = .int .i64 (n ^ k : Nat)) (fun _ i => n - (intOf i).toNat)
  case atStart => exact ⟨0, .inl rfl, rfl, rfl⟩
  case round =>
    obtain ⟨k, hk, rfl, rfl⟩ := hrel
    obtain ⟨x, ex⟩ : ∃ x, x = n ^ k := ⟨_, rfl⟩
    rw [← ex]
    have EX := Lib.hid ex
    clear ex
    by_cases hlt : k + 2 < n
    · have hd : decide ((k : Int) + 2 < (n : Int)) = true := by simp; omega
      have hs := pw_step n k x h6 (by omega) EX.out
      go_wp2
      go_round
      case rel => exact ⟨k + 1, .inr (by omega), by congr 1, by rw [hs]⟩
      case measure => simp [intOf]; omega
    · have hd : decide ((k : Int) + 2 < (n : Int)) = false := by simp; omega
      have hke : k = n - 2 := by omega
      have HK := Lib.hid hke
      clear hke
      go_wp2
      go_ret2
      exact ⟨by rw [EX.out, HK.out]; rfl, rfl⟩
theorem specMany_any (z : Int) (w : World) : Calls Tryd.prog 18 #[.int .i64 z] w (ManyP w (manyT z)) := by
  by_cases h : 1 ≤ z ∧ z ≤ 6
  · obtain ⟨n, rfl⟩ : ∃ n : Nat, z = (n : Int) := ⟨z.toNat, by omega⟩
    rw [manyT_yes (by omega) (by omega)]
    exact specMany_yes n (by omega) (by omega) w
  · rw [manyT_no h]
    have hd : decide (1 ≤ z ∧ z ≤ 6) = false := by simp; omega
    go_enter Tryd.func18, Tryd.ntmps18
    go_wp2_with fail
    refine (in_any _ _ _ _).mono ?_
    rintro e w1 ⟨rfl, rfl⟩
    go_wp2
    go_ret2
    exact ⟨rfl, rfl⟩

end Go.Proofs.YtkngijkhhonikaaDoor
