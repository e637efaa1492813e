/- Two graphs beside each other are a net; its neighbours are those of the first graph, then those of the second one with each number raised. -/
import Derived.Test.YtnnobbbljpaieaaDoorJoinMath
import Derived.Test.YtnnobbbljpaieaaDoorNetOf
import Derived.Test.YtnnobbbljpaieaaDoorStepMath
namespace Go.Proofs.YtnnobbbljpaieaaDoor
open Go Go.RowKit
set_option linter.unusedVariables false
set_option maxRecDepth 100000

theorem joinL_left {L : List Int} (M : List Int) {v : Nat} (hv : v < L.length) : (joinL L M)[v]?.getD 0 = L[v]?.getD 0 := by
  unfold joinL
  rw [List.getElem?_append_left hv]
theorem joinL_right (L : List Int) {M : List Int} {v : Nat} (hv : v < M.length) : (joinL L M)[L.length + v]?.getD 0 = ((ent M v * 2 ^ L.length : Nat) : Int) := by
  unfold joinL
  rw [List.getElem?_append_right (by omega), Nat.add_sub_cancel_left]
  simp [upL, hv]
theorem nset_left {L : List Int} (M : List Int) {v : Nat} (hv : v < L.length) : nset (joinL L M) v = nset L v := by
  unfold nset
  rw [joinL_left M hv]
theorem nset_right (L : List Int) {M : List Int} {v : Nat} (hv : v < M.length) : nset (joinL L M) (L.length + v) = nset M v * 2 ^ L.length := by
  unfold nset
  rw [joinL_right L hv, Int.toNat_natCast]
  rfl
theorem net_join {L M : List Int} (hL : IsGraph L) (hM : IsGraph M) : Net (joinL L M) := by
  have h1 := hL.1
  have h2 := hL.2.1
  have h3 := hM.2.1
  refine ⟨by rw [joinL_length]; omega, by rw [joinL_length]; omega, fun v hv => ?_⟩
  rw [joinL_length] at hv ⊢
  by_cases hlt : v < L.length
  · obtain ⟨X, e1, e2, e3⟩ := (net_of hL).2.2 v hlt
    exact ⟨X, (joinL_left M hlt).trans e1, Nat.lt_of_lt_of_le e2 (Nat.pow_le_pow_right (by omega) (by omega)), e3⟩
  · obtain ⟨j, rfl⟩ : ∃ j, v = L.length + j := ⟨v - L.length, by omega⟩
    have hj : j < M.length := by omega
    obtain ⟨X, e1, e2, e3⟩ := (net_of hM).2.2 j hj
    have ee : ent M j = X := by unfold ent; rw [e1]; simp
    refine ⟨ent M j * 2 ^ L.length, joinL_right L hj, ?_, ?_⟩
    · rw [ee, Nat.pow_add, Nat.mul_comm]
      exact Nat.mul_lt_mul_of_pos_left e2 (Nat.two_pow_pos _)
    · rw [ee, Nat.pow_add, Nat.mul_comm X, Nat.mul_div_mul_left _ _ (Nat.two_pow_pos _)]
      exact e3

/-- Each number of each list raised. -/
def raised (n : Nat) (Ns : List (List Int)) : List (List Int) := Ns.map fun r => r.map fun x => x + (n : Int)
theorem raised_length (n : Nat) (Ns : List (List Int)) : (raised n Ns).length = Ns.length := by simp [raised]
theorem raised_append (n : Nat) (Ns Ms : List (List Int)) : raised n (Ns ++ Ms) = raised n Ns ++ raised n Ms := by simp [raised]

theorem nearTo_more (X n m : Nat) (hX : X < 2 ^ n) : nearTo X (n + m) = nearTo X n := by
  induction m with
  | zero => rfl
  | succ m ih =>
    rw [← Nat.add_assoc, nearTo_succ, ih]
    have h0 : X / 2 ^ (n + m) = 0 := Nat.div_eq_of_lt (Nat.lt_of_lt_of_le hX (Nat.pow_le_pow_right (by omega) (by omega)))
    rw [h0]
    simp
theorem nearTo_low (Y n k : Nat) (hk : k ≤ n) : nearTo (Y * 2 ^ n) k = [] := by
  induction k with
  | zero => rfl
  | succ k ih =>
    rw [nearTo_succ, ih (by omega)]
    have e : Y * 2 ^ n = (Y * 2 ^ (n - k - 1) * 2) * 2 ^ k := by
      rw [Nat.mul_assoc, Nat.mul_assoc, ← Nat.pow_succ', ← Nat.pow_add]
      congr 2
      omega
    rw [e, Nat.mul_div_cancel _ (Nat.two_pow_pos _), Nat.mul_mod_left]
    simp
theorem nearTo_up (Y n m : Nat) : nearTo (Y * 2 ^ n) (n + m) = (nearTo Y m).map fun x => x + (n : Int) := by
  induction m with
  | zero => rw [Nat.add_zero, nearTo_low Y n n (Nat.le_refl _)]; rfl
  | succ m ih =>
    rw [← Nat.add_assoc, nearTo_succ, ih, nearTo_succ, List.map_append]
    have e : Y * 2 ^ n / 2 ^ (n + m) = Y / 2 ^ m := by
      rw [Nat.pow_add, Nat.mul_comm Y, Nat.mul_div_mul_left _ _ (Nat.two_pow_pos _)]
    rw [e]
    congr 1
    split
    · simp; omega
    · rfl
theorem near_join {L M : List Int} (hL : IsGraph L) (hM : IsGraph M) : nearL (joinL L M) (L.length + M.length) = nearL L L.length ++ raised L.length (nearL M M.length) := by
  have key : ∀ k, k ≤ M.length → nearL (joinL L M) (L.length + k) = nearL L L.length ++ raised L.length (nearL M k) := fun k hk => by
    induction k with
    | zero =>
      show nearL (joinL L M) L.length = nearL L L.length ++ []
      rw [List.append_nil]
      unfold nearL
      refine List.map_congr_left fun v hv => ?_
      have hv := List.mem_range.1 hv
      rw [nset_left M hv, joinL_length, nearTo_more _ _ _ ((net_of hL).ent hv).2.1]
    | succ k ih =>
      rw [← Nat.add_assoc, nearL_succ, ih (by omega), nearL_succ, raised_append, List.append_assoc, nset_right L (by omega), joinL_length, nearTo_up]
      rfl
  exact key _ (Nat.le_refl _)
end Go.Proofs.YtnnobbbljpaieaaDoor
