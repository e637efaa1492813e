/- The powers of the matrix less its degrees, counted fast: what is added and what is taken off, each packed in one number. Plain mathematics (for NumberTrees). -/
import Derived.Test.YtkngijkhhonikaaDoorLapMath
import Derived.Test.YtkngijkhhonikaaDoorNewton
namespace Go.Proofs.YtkngijkhhonikaaDoor
open Go Go.RowKit
set_option linter.unusedVariables false
set_option maxRecDepth 100000

def lpq (L : List Int) (v : Nat) : Nat → Nat → Nat × Nat
  | 0, w => (if w = v then 1 else 0, 0)
  | k + 1, w => (sumN (fun b => (lpq L v k b).1 * bt L b w) L.length + (lpq L v k w).2 * dg L w, sumN (fun b => (lpq L v k b).2 * bt L b w) L.length + (lpq L v k w).1 * dg L w)
theorem sumTo_add (f g : Nat → Int) (n : Nat) : sumTo (fun i => f i + g i) n = sumTo f n + sumTo g n := by
  induction n with
  | zero => rfl
  | succ n ih => rw [sumTo, sumTo, sumTo, ih]; omega
theorem sumTo_sub (f g : Nat → Int) (n : Nat) : sumTo (fun i => f i - g i) n = sumTo f n - sumTo g n := by
  induction n with
  | zero => rfl
  | succ n ih => rw [sumTo, sumTo, sumTo, ih]; omega
theorem sumTo_delta (x : Nat) (a : Int) : ∀ n, x < n → sumTo (fun s => if s = x then a else 0) n = a
  | 0, h => by omega
  | n + 1, h => by
    rw [sumTo]
    rcases Nat.lt_or_ge x n with h1 | h1
    · rw [sumTo_delta x a n h1, if_neg (by omega), Int.add_zero]
    · have e : n = x := by omega
      rw [if_pos e, sumTo_zero fun i hi => if_neg (by omega), Int.zero_add]
theorem lpq_is {L : List Int} (hg : IsGraph L) (v k : Nat) {w : Nat} (hv : v < L.length) (hw : w < L.length) : mpow (lapM L) L.length k v w = ((lpq L v k w).1 : Int) - ((lpq L v k w).2 : Int) := by
  have h6 := hg.2.1
  induction k generalizing w with
  | zero =>
    show (if v = w ∧ v < L.length then (1 : Int) else 0) = ((if w = v then 1 else 0 : Nat) : Int) - ((0 : Nat) : Int)
    by_cases e : w = v
    · rw [if_pos e, if_pos ⟨e.symm, hv⟩]; rfl
    · rw [if_neg e, if_neg (fun h => e h.1.symm)]; rfl
  | succ k ih =>
    show mmul _ _ _ _ = _
    rw [lap_mul L h6]
    have hb : ∀ b, b < L.length → mpow (lapM L) L.length k v b * lapM L b w =
        (((lpq L v k b).1 * bt L b w : Nat) : Int) - (((lpq L v k b).2 * bt L b w : Nat) : Int) + (if b = w then (((lpq L v k w).2 * dg L w : Nat) : Int) - (((lpq L v k w).1 * dg L w : Nat) : Int) else 0) := fun b hb => by
      rw [ih hb, lapM_in hb hw]
      by_cases e : b = w
      · subst e
        rw [if_pos rfl, if_pos rfl, (hg.2.2 b hb).2.1, Nat.mul_zero, Nat.mul_zero, Int.natCast_mul, Int.natCast_mul, Int.mul_neg, Int.sub_mul]
        omega
      · rw [if_neg e, if_neg e, Int.natCast_mul, Int.natCast_mul, Int.sub_mul, Int.add_zero]
    rw [sumTo_congr hb, sumTo_add, sumTo_sub, sumTo_delta w _ _ hw, ← sumN_int, ← sumN_int]
    show _ = (((sumN _ _ + _ : Nat) : Int)) - ((sumN _ _ + _ : Nat) : Int)
    rw [Int.natCast_add, Int.natCast_add]
    omega
theorem dg_col {L : List Int} (hg : IsGraph L) {w : Nat} (hw : w < L.length) : sumN (fun b => bt L b w) L.length = dg L w :=
  sumN_congr fun b hb => bt_sym hg hb hw
theorem lpq_le {L : List Int} (hg : IsGraph L) (v k : Nat) {w : Nat} (hw : w < L.length) : (lpq L v k w).1 ≤ 10 ^ k ∧ (lpq L v k w).2 ≤ 10 ^ k := by
  have h6 := hg.2.1
  induction k generalizing w with
  | zero =>
    refine ⟨?_, Nat.zero_le _⟩
    show (if w = v then 1 else 0) ≤ 1
    split <;> decide
  | succ k ih =>
    have hd := dg_le L h6 hg hw
    have key : ∀ f : Nat → Nat, (∀ b, b < L.length → f b ≤ 10 ^ k) → sumN (fun b => f b * bt L b w) L.length ≤ 10 ^ k * 5 := fun f hf => by
      have h1 : ∀ m, m ≤ L.length → sumN (fun b => f b * bt L b w) m ≤ 10 ^ k * sumN (fun b => bt L b w) m := fun m => by
        induction m with
        | zero => intro _; exact Nat.le_refl _
        | succ m ihm =>
          intro hm
          rw [sumN, sumN, Nat.mul_add]
          exact Nat.add_le_add (ihm (by omega)) (Nat.mul_le_mul_right _ (hf m (by omega)))
      have h2 := h1 L.length (Nat.le_refl _)
      rw [dg_col hg hw] at h2
      exact Nat.le_trans h2 (Nat.mul_le_mul_left _ hd)
    have h1 := key (fun b => (lpq L v k b).1) fun b hb => (ih hb).1
    have h2 := key (fun b => (lpq L v k b).2) fun b hb => (ih hb).2
    have h3 := Nat.mul_le_mul (ih hw).1 hd
    have h4 := Nat.mul_le_mul (ih hw).2 hd
    rw [Nat.pow_succ]
    constructor
    · show sumN _ _ + _ ≤ _
      omega
    · show sumN _ _ + _ ≤ _
      omega

/-! ### packed -/
def rowB (L : List Int) (u : Nat) : Nat := packN 1048576 (bt L u) L.length
def lapPk (L : List Int) (v : Nat) : Nat → Nat × Nat
  | 0 => (1048576 ^ v, 0)
  | k + 1 => (sumN (fun u => (lapPk L v k).1 / 1048576 ^ u % 1048576 * rowB L u + (lapPk L v k).2 / 1048576 ^ u % 1048576 * (dg L u * 1048576 ^ u)) L.length,
      sumN (fun u => (lapPk L v k).2 / 1048576 ^ u % 1048576 * rowB L u + (lapPk L v k).1 / 1048576 ^ u % 1048576 * (dg L u * 1048576 ^ u)) L.length)
theorem pack_unit {B n v : Nat} (hv : v < n) : packN B (fun w => if w = v then 1 else 0) n = B ^ v := by
  induction n with
  | zero => omega
  | succ n ih =>
    show packN B _ n + (if n = v then 1 else 0) * B ^ n = _
    rcases Nat.lt_or_ge v n with h | h
    · rw [ih h, if_neg (by omega)]; omega
    · have e : v = n := by omega
      subst e
      rw [if_pos rfl]
      have hz : packN B (fun w => if w = v then 1 else 0) v = 0 := by
        unfold packN
        rw [sumN_congr (g := fun _ => 0) fun w hw => by show (if w = v then 1 else 0) * _ = 0; rw [if_neg (by omega), Nat.zero_mul], sumN_zero]
      omega
theorem pack_none (B n : Nat) : packN B (fun _ => 0) n = 0 := by
  unfold packN
  rw [sumN_congr (g := fun _ => 0) fun w hw => Nat.zero_mul _, sumN_zero]
theorem pack_turn (L : List Int) (f g : Nat → Nat) : sumN (fun u => f u * rowB L u + g u * (dg L u * 1048576 ^ u)) L.length =
    packN 1048576 (fun w => sumN (fun b => f b * bt L b w) L.length + g w * dg L w) L.length := by
  rw [sumN_addN]
  have h1 : sumN (fun u => f u * rowB L u) L.length = sumN (fun w => sumN (fun b => f b * bt L b w) L.length * 1048576 ^ w) L.length := by
    rw [sumN_congr (g := fun u => sumN (fun w => f u * bt L u w * 1048576 ^ w) L.length) fun u hu => by
      rw [rowB, packN, ← sumN_mulL]
      exact sumN_congr fun w _ => by rw [Nat.mul_assoc], sumN_swap]
    exact sumN_congr fun w _ => by rw [sumN_mulN]
  rw [h1, ← sumN_addN]
  unfold packN
  exact sumN_congr fun w _ => by rw [Nat.add_mul, Nat.mul_assoc (g w)]
theorem ten_small {k : Nat} (hk : k ≤ 6) {x : Nat} (h : x ≤ 10 ^ k) : x < 1048576 := by
  have h1 : (10 : Nat) ^ k ≤ 10 ^ 6 := Nat.pow_le_pow_right (by omega) hk
  have h2 : (10 : Nat) ^ 6 < 1048576 := by decide
  omega
theorem lapPk_is {L : List Int} (hg : IsGraph L) {v : Nat} (hv : v < L.length) (k : Nat) (hk : k ≤ 6) :
    lapPk L v k = (packN 1048576 (fun w => (lpq L v k w).1) L.length, packN 1048576 (fun w => (lpq L v k w).2) L.length) := by
  induction k with
  | zero =>
    show (1048576 ^ v, 0) = (packN 1048576 (fun w => if w = v then 1 else 0) L.length, packN 1048576 (fun _ => 0) L.length)
    rw [pack_unit hv, pack_none]
  | succ k ih =>
    have d1 : ∀ u, u < L.length → packN 1048576 (fun w => (lpq L v k w).1) L.length / 1048576 ^ u % 1048576 = (lpq L v k u).1 := fun u hu =>
      pack_digit (by decide) (fun w hw => ten_small (by omega) (lpq_le hg v k hw).1) hu
    have d2 : ∀ u, u < L.length → packN 1048576 (fun w => (lpq L v k w).2) L.length / 1048576 ^ u % 1048576 = (lpq L v k u).2 := fun u hu =>
      pack_digit (by decide) (fun w hw => ten_small (by omega) (lpq_le hg v k hw).2) hu
    rw [lapPk, ih (by omega)]
    refine Prod.ext ?_ ?_
    · show sumN _ _ = packN _ _ _
      rw [sumN_congr (g := fun u => (lpq L v k u).1 * rowB L u + (lpq L v k u).2 * (dg L u * 1048576 ^ u)) fun u hu => by rw [d1 u hu, d2 u hu]]
      exact pack_turn L _ _
    · show sumN _ _ = packN _ _ _
      rw [sumN_congr (g := fun u => (lpq L v k u).2 * rowB L u + (lpq L v k u).1 * (dg L u * 1048576 ^ u)) fun u hu => by rw [d1 u hu, d2 u hu]]
      exact pack_turn L _ _
/-- The traces, counted fast. -/
def qF (L : List Int) (i : Nat) : Int := ((sumN (fun v => (lapPk L v i).1 / 1048576 ^ v % 1048576) L.length : Nat) : Int) - ((sumN (fun v => (lapPk L v i).2 / 1048576 ^ v % 1048576) L.length : Nat) : Int)
theorem qF_is {L : List Int} (hg : IsGraph L) (i : Nat) (hi : i ≤ 6) : qF L i = qN L i := by
  rw [qN_sum hg.2.1, sumTo_congr fun v hv => lpq_is hg v i hv hv, sumTo_sub, ← sumN_int, ← sumN_int]
  have e1 : sumN (fun v => (lapPk L v i).1 / 1048576 ^ v % 1048576) L.length = sumN (fun v => (lpq L v i v).1) L.length := sumN_congr fun v hv => by
    rw [lapPk_is hg hv i hi]
    exact pack_digit (d := fun w => (lpq L v i w).1) (by decide) (fun w hw => ten_small hi (lpq_le hg v i hw).1) hv
  have e2 : sumN (fun v => (lapPk L v i).2 / 1048576 ^ v % 1048576) L.length = sumN (fun v => (lpq L v i v).2) L.length := sumN_congr fun v hv => by
    rw [lapPk_is hg hv i hi]
    exact pack_digit (d := fun w => (lpq L v i w).2) (by decide) (fun w hw => ten_small hi (lpq_le hg v i hw).2) hv
  unfold qF
  rw [e1, e2]
end Go.Proofs.YtkngijkhhonikaaDoor
