/- Two graphs beside each other, as lists: the nodes of the second one called by as many more. -/
import Derived.Test.YtnnobbbljpaieaaDoorBaseA
namespace Go.Proofs.YtnnobbbljpaieaaDoor
open Go.RowKit
set_option linter.unusedVariables false

/-- The first k nodes of the second graph, called by n more. -/
def upL (n : Nat) (M : List Int) (k : Nat) : List Int := (List.range k).map fun i => ((ent M i * 2 ^ n : Nat) : Int)
theorem upL_succ (n : Nat) (M : List Int) (k : Nat) : upL n M (k + 1) = upL n M k ++ [((ent M k * 2 ^ n : Nat) : Int)] := by simp [upL, List.range_succ]
theorem upL_length (n : Nat) (M : List Int) (k : Nat) : (upL n M k).length = k := by simp [upL]
def joinL (L M : List Int) : List Int := L ++ upL L.length M M.length
theorem joinL_length (L M : List Int) : (joinL L M).length = L.length + M.length := by simp [joinL, upL_length]

theorem up_op (Y n : Nat) (hY : Y < 64) (hn : n ≤ 6) : ∃ z : Nat, z = Y * 2 ^ n ∧ wrap64 ((Y : Int) * 2 ^ n) = (z : Int) := by
  refine ⟨Y * 2 ^ n, rfl, ?_⟩
  have h1 : 2 ^ n ≤ 64 := two_le hn
  have h2 : Y * 2 ^ n ≤ Y * 64 := Nat.mul_le_mul_left _ h1
  have e : (Y : Int) * 2 ^ n = ((Y * 2 ^ n : Nat) : Int) := by simp
  rw [e]
  obtain ⟨z, hz⟩ : ∃ z, z = Y * 2 ^ n := ⟨_, rfl⟩
  rw [← hz] at h2 ⊢
  have h3 : z ≤ 4096 := by omega
  clear h1 h2 e hz
  unfold wrap64
  omega

/-- The first k places behind n filled. -/
def filled (L M : List Int) (k : Nat) : List Int := L ++ (upL L.length M k ++ List.replicate (M.length - k) 0)
theorem filled_zero (L M : List Int) : filled L M 0 = L ++ List.replicate M.length 0 := by simp [filled, upL]
theorem filled_all (L M : List Int) : filled L M M.length = joinL L M := by simp [filled, joinL]
theorem filled_length (L M : List Int) (k : Nat) (h : k ≤ M.length) : (filled L M k).length = L.length + M.length := by simp [filled, upL_length]; omega
theorem filled_succ (L M : List Int) (k : Nat) (h : k < M.length) : (filled L M k).set (L.length + k) ((ent M k * 2 ^ L.length : Nat) : Int) = filled L M (k + 1) := by
  unfold filled
  have e : M.length - k = (M.length - (k + 1)) + 1 := by omega
  rw [List.set_append_right _ _ (by omega), Nat.add_sub_cancel_left, List.set_append_right _ _ (by rw [upL_length]; omega), upL_length, Nat.sub_self, e, List.replicate_succ, List.set_cons_zero, upL_succ, List.append_assoc]
  rfl
end Go.Proofs.YtnnobbbljpaieaaDoor
