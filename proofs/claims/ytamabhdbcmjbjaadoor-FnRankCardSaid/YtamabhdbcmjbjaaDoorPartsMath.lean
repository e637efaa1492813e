/- The model's parts: a pair made one, node by node. Plain mathematics. -/
import Derived.Test.YtamabhdbcmjbjaaDoorRankMath
namespace Go.Proofs.YtamabhdbcmjbjaaDoor
open Go Go.RowKit
set_option linter.unusedVariables false

def pvTo (P : List Nat) (a b v : Nat) : List Nat := (P.take v).map (mrgV P a b) ++ P.drop v
theorem pvTo_zero (P : List Nat) (a b : Nat) : pvTo P a b 0 = P := by simp [pvTo]
theorem pvTo_all (P : List Nat) (a b : Nat) : pvTo P a b P.length = mrg P a b := by simp [pvTo, mrg]
theorem pvTo_length (P : List Nat) (a b v : Nat) (h : v ≤ P.length) : (pvTo P a b v).length = P.length := by simp [pvTo]; omega
theorem pvTo_get (P : List Nat) (a b v : Nat) (h : v < P.length) : at_ (pvTo P a b v) v = at_ P v := by
  unfold at_ pvTo
  rw [List.getElem?_append_right (by simp; omega)]
  simp only [List.length_map, List.length_take, List.getElem?_drop]
  congr 2
  omega
theorem pvTo_succ (P : List Nat) (a b v : Nat) (h : v < P.length) : pvTo P a b (v + 1) = (pvTo P a b v).set v (mrgV P a b (at_ P v)) := by
  have e1 : P.take (v + 1) = P.take v ++ [at_ P v] := by
    rw [List.take_succ_eq_append_getElem h]
    unfold at_
    rw [List.getElem?_eq_getElem h]; rfl
  have e2 : P.drop v = at_ P v :: P.drop (v + 1) := by
    rw [List.drop_eq_getElem_cons h]
    unfold at_
    rw [List.getElem?_eq_getElem h]; rfl
  unfold pvTo
  rw [e1, List.map_append, List.append_assoc, e2]
  rw [List.set_append_right _ _ (by simp; omega)]
  simp only [List.length_map, List.length_take, Nat.min_eq_left (Nat.le_of_lt h), Nat.sub_self, List.map_cons, List.map_nil, List.set_cons_zero, List.singleton_append]
theorem pvTo_same (P : List Nat) (a b v : Nat) (h : v < P.length) (hm : ¬ (at_ P v = at_ P a ∨ at_ P v = at_ P b)) : pvTo P a b (v + 1) = pvTo P a b v := by
  rw [pvTo_succ P a b v h]
  have e : mrgV P a b (at_ P v) = at_ (pvTo P a b v) v := by
    rw [pvTo_get P a b v h]
    unfold mrgV
    rw [if_neg hm]
  rw [e]
  unfold at_
  have hl : v < (pvTo P a b v).length := by rw [pvTo_length _ _ _ _ (by omega)]; exact h
  rw [List.getElem?_eq_getElem hl]
  simp
theorem pvTo_hit (P : List Nat) (a b v : Nat) (h : v < P.length) (hm : at_ P v = at_ P a ∨ at_ P v = at_ P b) : pvTo P a b (v + 1) = (pvTo P a b v).set v (min (at_ P a) (at_ P b)) := by
  rw [pvTo_succ P a b v h]
  unfold mrgV
  rw [if_pos hm]
/-- What the innermost loop leaves. -/
def pvIf (bit : Nat) (P : List Nat) (a b v : Nat) : List Nat := if bit = 1 then pvTo P a b v else P
theorem pIn_succ (s b : Nat) (P : List Nat) (a n : Nat) (h : (pIn s b P a).length = n) : pIn s b P (a + 1) = pvIf (s / 2 ^ (tri b + a) % 2) (pIn s b P a) a b n := by
  unfold pvIf
  rw [← h, pvTo_all]
  rfl
theorem rankTo_at (P : List Nat) (v : Nat) : rankTo P (v + 1) = rankTo P v + (if at_ P v = v then 0 else 1) := rfl
theorem tri_small : ∀ b : Fin 6, ∀ a : Fin 6, a.val < b.val → tri b.val + a.val < 15 := by decide
end Go.Proofs.YtamabhdbcmjbjaaDoor
