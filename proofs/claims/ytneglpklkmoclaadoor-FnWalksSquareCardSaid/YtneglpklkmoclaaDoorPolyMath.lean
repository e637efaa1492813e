/- Plain mathematics of Newton's sums: the numbers of the polynomial out of the numbers of closed walks; their bounds. -/
import Derived.Test.YtneglpklkmoclaaDoorBaseW
namespace Go.Proofs.YtneglpklkmoclaaDoor
open Go Go.RowKit
set_option linter.unusedVariables false
set_option maxRecDepth 100000

def sg : Nat → Int
  | 0 => 1
  | k + 1 => - sg k
theorem sg_add (a b : Nat) : sg (a + b) = sg a * sg b := by
  induction b with
  | zero => simp [sg]
  | succ b ih => rw [← Nat.add_assoc, sg, ih, sg, Int.mul_neg]
theorem sg_or (k : Nat) : sg k = 1 ∨ sg k = -1 := by
  induction k with
  | zero => exact .inl rfl
  | succ k ih => rw [sg]; omega
theorem sg_sq (k : Nat) : sg k * sg k = 1 := by rcases sg_or k with h | h <;> rw [h] <;> rfl
theorem sg_mid {k i : Nat} (hi : i < k) : sg k * sg i = - sg (k - 1 - i) := by
  have e : k = (k - 1 - i) + (1 + i) := by omega
  have h1 : sg k = sg (k - 1 - i) * sg (1 + i) := by
    have h := sg_add (k - 1 - i) (1 + i)
    rw [← e] at h
    exact h
  rw [h1, sg_add 1 i, Int.mul_assoc, Int.mul_assoc, sg_sq, Int.mul_one]
  show sg (k - 1 - i) * (-1) = _
  omega
/-- The numbers with which the powers of x are multiplied, but for their signs. -/
def eL (p : Nat → Int) : Nat → List Int
  | 0 => [1]
  | k + 1 => eL p k ++ [(sumTo (fun i => sg i * ((eL p k)[k - i]?.getD 0) * p (i + 1)) (k + 1)).tdiv ((k + 1 : Nat) : Int)]
theorem eL_length (p : Nat → Int) (k : Nat) : (eL p k).length = k + 1 := by
  induction k with
  | zero => rfl
  | succ k ih => rw [eL, List.length_append, ih]; rfl
def eN (p : Nat → Int) (j : Nat) : Int := (eL p j)[j]?.getD 0
theorem eL_get (p : Nat → Int) {j k : Nat} (h : j ≤ k) : (eL p k)[j]?.getD 0 = eN p j := by
  induction k with
  | zero => have : j = 0 := by omega
            subst this; rfl
  | succ k ih =>
    rcases Nat.eq_or_lt_of_le h with e | e
    · rw [← e]; rfl
    · rw [eL, List.getElem?_append_left (by rw [eL_length]; omega), ih (by omega)]
/-- The sum of the first terms for the number at k. -/
def eT (p : Nat → Int) (k j : Nat) : Int := sumTo (fun i => sg i * eN p (k - 1 - i) * p (i + 1)) j
theorem eT_succ (p : Nat → Int) (k j : Nat) : eT p k (j + 1) = eT p k j + sg j * eN p (k - 1 - j) * p (j + 1) := rfl
theorem eN_zero (p : Nat → Int) : eN p 0 = 1 := rfl
theorem eL_succ (p : Nat → Int) (k : Nat) : eL p (k + 1) = eL p k ++ [(eT p (k + 1) (k + 1)).tdiv ((k + 1 : Nat) : Int)] := by
  rw [eL]
  have h : sumTo (fun i => sg i * ((eL p k)[k - i]?.getD 0) * p (i + 1)) (k + 1) = eT p (k + 1) (k + 1) := sumTo_congr fun i hi => by
    rw [eL_get p (by omega : k - i ≤ k), show k + 1 - 1 - i = k - i by omega]
  rw [h]
theorem eN_succ (p : Nat → Int) (k : Nat) : eN p (k + 1) = (eT p (k + 1) (k + 1)).tdiv ((k + 1 : Nat) : Int) := by
  unfold eN
  rw [eL_succ, List.getElem?_append_right (by rw [eL_length]; omega), eL_length, Nat.sub_self]
  rfl

/-! ### bounds -/
theorem natAbs_sg (k : Nat) : (sg k).natAbs = 1 := by rcases sg_or k with h | h <;> rw [h] <;> rfl
theorem sumTo_abs {f : Nat → Int} {g : Nat → Nat} {n : Nat} (h : ∀ i, i < n → (f i).natAbs ≤ g i) : (sumTo f n).natAbs ≤ sumN g n := by
  induction n with
  | zero => exact Nat.le_refl 0
  | succ n ih =>
    rw [sumTo, sumN]
    have h1 := Int.natAbs_add_le (sumTo f n) (f n)
    have h2 := ih (fun i hi => h i (by omega))
    have h3 := h n (by omega)
    omega
theorem bound_six : ∀ k : Fin 6, sumN (fun i => 70 ^ (k.val - i) * (6 * 10 ^ (i + 1))) (k.val + 1) ≤ 70 ^ (k.val + 1) := by decide
theorem eT_abs {p : Nat → Int} (hp : ∀ i, 1 ≤ i → i ≤ 6 → (p i).natAbs ≤ 6 * 10 ^ i) {k : Nat} (hk : k < 6) (he : ∀ j, j ≤ k → (eN p j).natAbs ≤ 70 ^ j) : (eT p (k + 1) (k + 1)).natAbs ≤ 70 ^ (k + 1) := by
  refine Nat.le_trans (sumTo_abs (g := fun i => 70 ^ (k - i) * (6 * 10 ^ (i + 1))) fun i hi => ?_) (bound_six ⟨k, hk⟩)
  rw [Int.natAbs_mul, Int.natAbs_mul, natAbs_sg, Nat.one_mul]
  have h1 := he (k - i) (by omega)
  have h2 := hp (i + 1) (by omega) (by omega)
  rw [show k + 1 - 1 - i = k - i by omega]
  exact Nat.mul_le_mul h1 h2
theorem eN_abs {p : Nat → Int} (hp : ∀ i, 1 ≤ i → i ≤ 6 → (p i).natAbs ≤ 6 * 10 ^ i) : ∀ k, k ≤ 6 → ∀ j, j ≤ k → (eN p j).natAbs ≤ 70 ^ j
  | 0, _, j, hj => by
    have : j = 0 := by omega
    subst this
    show Int.natAbs 1 ≤ 1
    decide
  | k + 1, hk, j, hj => by
    have ih := eN_abs hp k (by omega)
    rcases Nat.eq_or_lt_of_le hj with e | e
    · subst e
      rw [eN_succ, Int.natAbs_tdiv]
      exact Nat.le_trans (Nat.div_le_self _ _) (eT_abs hp (by omega) ih)
    · exact ih j (by omega)
theorem pow42 {k : Nat} (hk : k ≤ 6) : 70 ^ k ≤ 117649000000 := Nat.le_trans (Nat.pow_le_pow_right (by omega) hk) (by decide)
theorem eT_small {p : Nat → Int} (hp : ∀ i, 1 ≤ i → i ≤ 6 → (p i).natAbs ≤ 6 * 10 ^ i) {k : Nat} (hk : k < 6) : (eT p (k + 1) (k + 1)).natAbs ≤ 117649000000 :=
  Nat.le_trans (eT_abs hp hk (eN_abs hp k (by omega))) (pow42 (by omega))
theorem eN_small {p : Nat → Int} (hp : ∀ i, 1 ≤ i → i ≤ 6 → (p i).natAbs ≤ 6 * 10 ^ i) {k : Nat} (hk : k ≤ 6) : (eN p k).natAbs ≤ 117649000000 :=
  Nat.le_trans (eN_abs hp k hk k (Nat.le_refl _)) (pow42 hk)
theorem wrap_abs {x : Int} (h : x.natAbs ≤ 117649000000) : wrap64 x = x := wrap_id (by omega) (by omega)
/-- The numbers of closed walks. -/
def pN (L : List Int) (i : Nat) : Int := ((closedN L i : Nat) : Int)
theorem pN_abs (L : List Int) (hL : L.length ≤ 6) : ∀ i, 1 ≤ i → i ≤ 6 → (pN L i).natAbs ≤ 6 * 10 ^ i := fun i _ _ => by
  unfold pN
  rw [Int.natAbs_natCast]
  have h1 : closedN L i ≤ L.length * 6 ^ i := sumN_le fun v _ => wk_le L hL i v v
  have h2 : L.length * 6 ^ i ≤ 6 * 10 ^ i := Nat.mul_le_mul hL (Nat.pow_le_pow_left (by omega) i)
  omega

/-! ### the list of the polynomial -/
/-- The list as far as k numbers stand. -/
def pl (p : Nat → Int) (n k : Nat) : List Int := (List.range (n + 1)).map fun t => if n - t ≤ k then sg (n - t) * eN p (n - t) else 0
theorem pl_length (p : Nat → Int) (n k : Nat) : (pl p n k).length = n + 1 := by simp [pl]
theorem pl_get (p : Nat → Int) (n k : Nat) {t : Nat} (ht : t ≤ n) : (pl p n k)[t]?.getD 0 = if n - t ≤ k then sg (n - t) * eN p (n - t) else 0 := by
  unfold pl
  rw [List.getElem?_map, List.getElem?_range (by omega)]
  rfl
theorem eq_of_getI {xs ys : List Int} (hl : xs.length = ys.length) (h : ∀ j, j < xs.length → xs[j]?.getD 0 = ys[j]?.getD 0) : xs = ys := by
  apply List.ext_getElem?
  intro j
  by_cases hj : j < xs.length
  · have h1 := h j hj
    rw [List.getElem?_eq_getElem hj, List.getElem?_eq_getElem (by omega)] at h1 ⊢
    simpa using h1
  · rw [List.getElem?_eq_none (by omega), List.getElem?_eq_none (by omega)]
theorem getI_set (xs : List Int) (i j : Nat) (x : Int) (hi : i < xs.length) : (xs.set i x)[j]?.getD 0 = if j = i then x else xs[j]?.getD 0 := by
  rw [List.getElem?_set]
  by_cases h : i = j
  · subst h; simp [hi]
  · rw [if_neg h, if_neg (fun e => h e.symm)]
theorem pl_start (p : Nat → Int) (n : Nat) : (ints (List.replicate (n + 1) 0)).set n 1 = pl p n 0 := by
  refine eq_of_getI (by simp [pl, ints]) fun j hj => ?_
  rw [List.length_set, ints_length, List.length_replicate] at hj
  rw [getI_set _ _ _ _ (by rw [ints_length, List.length_replicate]; omega), pl_get p n 0 (by omega), ints_get]
  by_cases h : j = n
  · rw [if_pos h, if_pos (by omega), h, Nat.sub_self, eN_zero]; rfl
  · rw [if_neg h, if_neg (by omega)]
    simp [hj]
theorem pl_next (p : Nat → Int) (n k : Nat) (hk : k < n) : (pl p n k).set (n - (k + 1)) (sg (k + 1) * eN p (k + 1)) = pl p n (k + 1) := by
  refine eq_of_getI (by simp [pl]) fun j hj => ?_
  rw [List.length_set, pl_length] at hj
  rw [getI_set _ _ _ _ (by rw [pl_length]; omega), pl_get p n k (by omega), pl_get p n (k + 1) (by omega)]
  by_cases h : j = n - (k + 1)
  · rw [if_pos h, if_pos (by omega), show n - j = k + 1 by omega]
  · rw [if_neg h]
    by_cases h2 : n - j ≤ k
    · rw [if_pos h2, if_pos (by omega)]
    · rw [if_neg h2, if_neg (by omega)]
/-- One more term. -/
theorem term_step (p : Nat → Int) (k j : Nat) (hj : j < k) : sg k * eT p k (j + 1) = sg k * eT p k j - p (j + 1) * (sg (k - 1 - j) * eN p (k - 1 - j)) := by
  rw [eT_succ, Int.mul_add, ← Int.mul_assoc, ← Int.mul_assoc, sg_mid hj]
  rw [Int.neg_mul, Int.neg_mul, Int.mul_comm (p (j + 1))]
  omega
theorem sg_tdiv (k : Nat) (x : Int) (m : Int) : (sg k * x).tdiv m = sg k * x.tdiv m := by
  rcases sg_or k with h | h <;> rw [h]
  · rw [Int.one_mul, Int.one_mul]
  · rw [Int.neg_mul, Int.neg_mul, Int.one_mul, Int.one_mul, Int.neg_tdiv]
theorem sg_abs (k : Nat) (x : Int) : (sg k * x).natAbs = x.natAbs := by rw [Int.natAbs_mul, natAbs_sg, Nat.one_mul]
theorem pl_zero (p : Nat → Int) (n k : Nat) (hk : k < n) : (pl p n k).set (n - (k + 1)) (wrap64 (sg (k + 1) * eT p (k + 1) 0)) = pl p n k := by
  refine eq_of_getI (by simp) fun j hj => ?_
  rw [List.length_set, pl_length] at hj
  rw [getI_set _ _ _ _ (by rw [pl_length]; omega)]
  by_cases h : j = n - (k + 1)
  · rw [if_pos h, pl_get p n k (by omega), if_neg (by omega)]
    show wrap64 (sg (k + 1) * 0) = 0
    rw [Int.mul_zero]
    simp [wrap64]
  · rw [if_neg h]
theorem set_set (xs : List Int) (i : Nat) (x y : Int) : (xs.set i x).set i y = xs.set i y := by simp
theorem wrap_mulL (x y : Int) : wrap64 (wrap64 x * y) = wrap64 (x * y) := by
  obtain ⟨k, hk⟩ := wrap_is x
  rw [hk, Int.add_mul, Int.mul_assoc, wrap_off]
theorem wrap_sub (a x y : Int) : wrap64 (wrap64 a - wrap64 (wrap64 x * y)) = wrap64 (a - x * y) := by
  rw [wrap_mulL]
  obtain ⟨k, hk⟩ := wrap_is a
  obtain ⟨l, hl⟩ := wrap_is (x * y)
  rw [hk, hl, show a + 18446744073709551616 * k - (x * y + 18446744073709551616 * l) = (a - x * y) + 18446744073709551616 * (k - l) by omega, wrap_off]
/-- The polynomial. -/
def polyL (L : List Int) : List Int := pl (pN L) L.length L.length
end Go.Proofs.YtneglpklkmoclaaDoor
