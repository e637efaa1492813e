/- The matrix with the neighbours and, at each node, less its degree; its traces do not change under naming and are small. Plain mathematics (for NumberTrees). -/
import Derived.Test.YtkngijkhhonikaaDoorClasses
import Derived.Test.YtkngijkhhonikaaDoorBaseW
namespace Go.Proofs.YtkngijkhhonikaaDoor
open Go Go.RowKit
set_option linter.unusedVariables false
set_option maxRecDepth 100000

theorem sumTo_list (f : Nat → Int) (n : Nat) : sumTo f n = ((List.range n).map f).sum := by
  induction n with
  | zero => rfl
  | succ n ih => rw [sumTo, ih, List.range_succ, List.map_append, List.sum_append_int]; simp
theorem perm_sum {xs ys : List Int} (h : xs.Perm ys) : xs.sum = ys.sum :=
  h.foldr_eq' (fun x _ y _ z => by omega) 0
theorem names_mapI {n : Nat} {P : List Nat} (h : Names n n P) (f : Nat → Int) : (List.range n).map (fun u => f (at_ P u)) = P.map f := by
  apply List.ext_getElem?
  intro j
  rw [List.getElem?_map, List.getElem?_map]
  by_cases hj : j < n
  · rw [List.getElem?_range hj]
    show some (f (P[j]?.getD 0)) = _
    rw [List.getElem?_eq_getElem (show j < P.length by rw [h.1]; exact hj)]
    rfl
  · rw [List.getElem?_eq_none (by simp; omega), List.getElem?_eq_none (by rw [h.1]; omega)]
    rfl
theorem sumTo_names {n : Nat} {P : List Nat} (h : Names n n P) (f : Nat → Int) : sumTo (fun u => f (at_ P u)) n = sumTo f n := by
  rw [sumTo_list, sumTo_list, names_mapI h]
  exact perm_sum ((names_range h).map f)
/-- How many neighbours. -/
def dg (L : List Int) (v : Nat) : Nat := sumN (bt L v) L.length
theorem dg_le (L : List Int) (hL : L.length ≤ 6) {v : Nat} (hg : IsGraph L) (hv : v < L.length) : dg L v ≤ 5 := by
  unfold dg
  have hs := (hg.2.2 v hv).2.1
  have key : ∀ n, v < n → sumN (bt L v) n ≤ n - 1 := fun n => by
    induction n with
    | zero => intro h; omega
    | succ n ih =>
      intro h
      show sumN (bt L v) n + bt L v n ≤ n
      rcases Nat.lt_or_ge v n with h1 | h1
      · have := ih h1
        have := bt_le L v n
        omega
      · have e : n = v := by omega
        have h2 : sumN (bt L v) n ≤ n * 1 := sumN_le fun w _ => bt_le L v w
        have h3 : bt L v n = 0 := by rw [e]; exact hs
        omega
  have := key L.length hv
  omega
theorem dg_named {L : List Int} {P : List Nat} (h : Names L.length L.length P) {v : Nat} (hv : v < L.length) : dg (namedL L P) (at_ P v) = dg L v := by
  unfold dg
  rw [namedL_length, ← sumN_names h]
  exact sumN_congr fun u hu => named_at h hv hu
def lapM (L : List Int) : Mx := fun i j => if i < L.length ∧ j < L.length then (if i = j then -((dg L i : Nat) : Int) else ((bt L i j : Nat) : Int)) else 0
theorem lapM_out {L : List Int} {i j : Nat} (h : ¬ (i < L.length ∧ j < L.length)) : lapM L i j = 0 := if_neg h
theorem lapM_in {L : List Int} {i j : Nat} (hi : i < L.length) (hj : j < L.length) : lapM L i j = if i = j then -((dg L i : Nat) : Int) else ((bt L i j : Nat) : Int) := if_pos ⟨hi, hj⟩
theorem lapM_named {L : List Int} {P : List Nat} (h : Names L.length L.length P) {v w : Nat} (hv : v < L.length) (hw : w < L.length) : lapM (namedL L P) (at_ P v) (at_ P w) = lapM L v w := by
  have h1 := at_name h hv
  have h2 := at_name h hw
  rw [lapM_in (L := namedL L P) (by rw [namedL_length]; exact h1) (by rw [namedL_length]; exact h2), lapM_in hv hw]
  by_cases e : v = w
  · rw [if_pos e, if_pos (by rw [e]), dg_named h hv]
  · rw [if_neg e, if_neg (fun e2 => e (at_inj h hv hw e2)), named_at h hv hw]
theorem lap_mul (L : List Int) (hL : L.length ≤ 6) (m : Mx) (i j : Nat) : mmul m (lapM L) i j = sumTo (fun b => m i b * lapM L b j) L.length :=
  sumTo_tail hL fun b h1 _ => by rw [lapM_out (by omega), Int.mul_zero]
theorem lap_pow_named {L : List Int} (hL : L.length ≤ 6) {P : List Nat} (h : Names L.length L.length P) (k : Nat) {v w : Nat} (hv : v < L.length) (hw : w < L.length) :
    mpow (lapM (namedL L P)) L.length k (at_ P v) (at_ P w) = mpow (lapM L) L.length k v w := by
  induction k generalizing w with
  | zero =>
    show (if at_ P v = at_ P w ∧ at_ P v < L.length then (1 : Int) else 0) = if v = w ∧ v < L.length then 1 else 0
    by_cases e : v = w
    · rw [if_pos ⟨by rw [e], at_name h hv⟩, if_pos ⟨e, hv⟩]
    · rw [if_neg (fun e2 => e (at_inj h hv hw e2.1)), if_neg (fun e2 => e e2.1)]
  | succ k ih =>
    show mmul _ _ _ _ = mmul _ _ _ _
    rw [lap_mul (namedL L P) (by rw [namedL_length]; exact hL), lap_mul L hL, namedL_length, ← sumTo_names h]
    exact sumTo_congr fun b hb => by rw [ih hb, lapM_named h hb hw]
theorem lap_pow_out {L : List Int} (hL : L.length ≤ 6) (k : Nat) {v w : Nat} (hw : L.length ≤ w) : mpow (lapM L) L.length k v w = 0 := by
  cases k with
  | zero =>
    show (if v = w ∧ v < L.length then (1 : Int) else 0) = 0
    rw [if_neg (by omega)]
  | succ k =>
    show mmul _ _ _ _ = 0
    rw [lap_mul L hL]
    exact sumTo_zero fun b _ => by rw [lapM_out (by omega), Int.mul_zero]
/-- The traces of the powers. -/
def qN (L : List Int) (i : Nat) : Int := mtr (mpow (lapM L) L.length i)
theorem qN_sum {L : List Int} (hL : L.length ≤ 6) (i : Nat) : qN L i = sumTo (fun v => mpow (lapM L) L.length i v v) L.length :=
  sumTo_tail hL fun v h1 _ => lap_pow_out hL i h1
theorem qN_named {L : List Int} (hL : L.length ≤ 6) {P : List Nat} (h : Names L.length L.length P) (i : Nat) : qN (namedL L P) i = qN L i := by
  rw [qN_sum (by rw [namedL_length]; exact hL), qN_sum hL, namedL_length, ← sumTo_names h]
  exact sumTo_congr fun v hv => lap_pow_named hL h i hv hv
theorem lap_abs {L : List Int} (hg : IsGraph L) {b w : Nat} (hb : b < L.length) : (lapM L b w).natAbs ≤ if b = w then 5 else 1 := by
  unfold lapM
  by_cases hw : w < L.length
  · rw [if_pos ⟨hb, hw⟩]
    by_cases e : b = w
    · rw [if_pos e, if_pos e, Int.natAbs_neg, Int.natAbs_natCast]
      exact dg_le L hg.2.1 hg hb
    · rw [if_neg e, if_neg e, Int.natAbs_natCast]
      exact bt_le L b w
  · rw [if_neg (by omega)]
    exact Nat.zero_le _
theorem col_ten : ∀ n : Fin 7, ∀ w : Fin 6, sumN (fun b => if b = w.val then 5 else 1) n.val ≤ 10 := by decide
theorem lap_pow_abs {L : List Int} (hg : IsGraph L) (k : Nat) (v w : Nat) : (mpow (lapM L) L.length k v w).natAbs ≤ 10 ^ k := by
  have h6 := hg.2.1
  induction k generalizing w with
  | zero =>
    show (if v = w ∧ v < L.length then (1 : Int) else 0).natAbs ≤ 1
    split <;> decide
  | succ k ih =>
    rcases Nat.lt_or_ge w L.length with hw | hw
    · show (mmul _ _ _ _).natAbs ≤ _
      rw [lap_mul L h6]
      have h1 := sumTo_abs (f := fun b => mpow (lapM L) L.length k v b * lapM L b w) (g := fun b => 10 ^ k * (if b = w then 5 else 1)) (n := L.length) fun b hb => by
        rw [Int.natAbs_mul]
        exact Nat.mul_le_mul (ih b) (lap_abs hg hb)
      have h2 : sumN (fun b => 10 ^ k * (if b = w then 5 else 1)) L.length = 10 ^ k * sumN (fun b => if b = w then 5 else 1) L.length := by
        generalize L.length = n
        induction n with
        | zero => simp [sumN]
        | succ n ihn => rw [sumN, sumN, ihn, Nat.mul_add]
      have h3 := col_ten ⟨L.length, by omega⟩ ⟨w, by omega⟩
      rw [h2] at h1
      rw [Nat.pow_succ]
      exact Nat.le_trans h1 (Nat.mul_le_mul_left _ h3)
    · rw [lap_pow_out h6 _ hw]
      exact Nat.zero_le _
theorem qN_abs {L : List Int} (hg : IsGraph L) (i : Nat) : (qN L i).natAbs ≤ 6 * 10 ^ i := by
  have h6 := hg.2.1
  rw [qN_sum h6]
  have h1 := sumTo_abs (f := fun v => mpow (lapM L) L.length i v v) (g := fun _ => 10 ^ i) (n := L.length) fun v _ => lap_pow_abs hg i v v
  have h2 : sumN (fun _ => 10 ^ i) L.length ≤ L.length * 10 ^ i := sumN_le fun _ _ => Nat.le_refl _
  exact Nat.le_trans h1 (Nat.le_trans h2 (Nat.mul_le_mul_right _ h6))
end Go.Proofs.YtkngijkhhonikaaDoor
