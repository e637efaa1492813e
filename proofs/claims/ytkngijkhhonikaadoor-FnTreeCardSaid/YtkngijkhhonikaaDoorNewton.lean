/- Newton's sums leave no rest: the polynomial tells the numbers of closed walks. Plain mathematics. -/
import Derived.Test.YtkngijkhhonikaaDoorClasses
import Derived.Test.YtkngijkhhonikaaDoorBaseW
namespace Go.Proofs.YtkngijkhhonikaaDoor
open Go Go.RowKit
set_option linter.unusedVariables false
set_option maxRecDepth 100000

/-! ### the numbers of closed walks, counted fast -/
theorem sumN_addN (f g : Nat → Nat) (n : Nat) : sumN (fun i => f i + g i) n = sumN f n + sumN g n := by
  induction n with
  | zero => rfl
  | succ n ih => rw [sumN, sumN, sumN, ih]; omega
theorem sumN_mulN (f : Nat → Nat) (n c : Nat) : sumN (fun i => f i * c) n = sumN f n * c := by
  induction n with
  | zero => simp [sumN]
  | succ n ih => rw [sumN, sumN, ih, Nat.add_mul]
theorem sumN_mulL (f : Nat → Nat) (n c : Nat) : sumN (fun i => c * f i) n = c * sumN f n := by
  rw [Nat.mul_comm, ← sumN_mulN]
  exact sumN_congr fun i _ => Nat.mul_comm _ _
theorem sumN_zero (n : Nat) : sumN (fun _ => 0) n = 0 := by
  induction n with
  | zero => rfl
  | succ n ih => rw [sumN, ih]
theorem sumN_swap (f : Nat → Nat → Nat) (n m : Nat) : sumN (fun i => sumN (fun j => f i j) m) n = sumN (fun j => sumN (fun i => f i j) n) m := by
  induction n with
  | zero => rw [sumN]; exact (sumN_zero m).symm
  | succ n ih =>
    rw [sumN, ih, ← sumN_addN]
    rfl
/-- Numbers below B as the digits of one. -/
def packN (B : Nat) (d : Nat → Nat) (n : Nat) : Nat := sumN (fun w => d w * B ^ w) n
theorem pack_lt {B : Nat} (hB : 1 ≤ B) {d : Nat → Nat} {n : Nat} (h : ∀ w, w < n → d w < B) : packN B d n < B ^ n := by
  induction n with
  | zero => simp [packN, sumN]
  | succ n ih =>
    have h1 := ih (fun w hw => h w (by omega))
    have h2 := h n (by omega)
    have h3 : (d n + 1) * B ^ n ≤ B * B ^ n := Nat.mul_le_mul_right _ h2
    show packN B d n + d n * B ^ n < B ^ (n + 1)
    rw [Nat.add_mul, Nat.one_mul] at h3
    rw [Nat.pow_succ, Nat.mul_comm (B ^ n)]
    omega
theorem pack_digit {B : Nat} (hB : 1 ≤ B) {d : Nat → Nat} {n : Nat} (h : ∀ w, w < n → d w < B) {u : Nat} (hu : u < n) : packN B d n / B ^ u % B = d u := by
  induction n with
  | zero => omega
  | succ n ih =>
    have hlt := pack_lt hB (fun w (hw : w < n) => h w (by omega))
    show (packN B d n + d n * B ^ n) / B ^ u % B = d u
    rcases Nat.lt_or_ge u n with hun | hun
    · have e : B ^ n = B ^ u * (B * B ^ (n - u - 1)) := by
        rw [← Nat.mul_assoc, ← Nat.pow_succ, ← Nat.pow_add]
        congr 1
        omega
      have hp : 0 < B ^ u := Nat.pow_pos hB
      rw [e, show packN B d n + d n * (B ^ u * (B * B ^ (n - u - 1))) = packN B d n + B ^ u * (B * (d n * B ^ (n - u - 1))) by
        rw [Nat.mul_left_comm, Nat.mul_left_comm B], Nat.add_mul_div_left _ _ hp, Nat.add_mul_mod_self_left]
      exact ih (fun w hw => h w (by omega)) hun
    · have e : u = n := by omega
      subst e
      have hp : 0 < B ^ u := Nat.pow_pos hB
      rw [Nat.add_mul_div_right _ _ hp, Nat.div_eq_of_lt hlt, Nat.zero_add]
      exact Nat.mod_eq_of_lt (h u (by omega))
def rowP (L : List Int) (u : Nat) : Nat := packN 65536 (bt L u) L.length
def walkP (L : List Int) (v : Nat) : Nat → Nat
  | 0 => 65536 ^ v
  | k + 1 => sumN (fun u => walkP L v k / 65536 ^ u % 65536 * rowP L u) L.length
theorem pack_one {n v : Nat} (hv : v < n) : packN 65536 (fun w => if w = v then 1 else 0) n = 65536 ^ v := by
  induction n with
  | zero => omega
  | succ n ih =>
    show packN 65536 _ n + (if n = v then 1 else 0) * 65536 ^ n = _
    rcases Nat.lt_or_ge v n with h | h
    · rw [ih h, if_neg (by omega)]; omega
    · have e : v = n := by omega
      subst e
      rw [if_pos rfl]
      have hz : packN 65536 (fun w => if w = v then 1 else 0) v = 0 := by
        unfold packN
        rw [sumN_congr (g := fun _ => 0) fun w hw => by show (if w = v then 1 else 0) * _ = 0; rw [if_neg (by omega), Nat.zero_mul], sumN_zero]
      omega
theorem walkP_is (L : List Int) (hL : L.length ≤ 6) (v : Nat) (hv : v < L.length) (k : Nat) (hk : k ≤ 6) : walkP L v k = packN 65536 (wk L k v) L.length := by
  induction k with
  | zero => exact (pack_one hv).symm
  | succ k ih =>
    rw [walkP, ih (by omega)]
    have h1 : ∀ u, u < L.length → packN 65536 (wk L k v) L.length / 65536 ^ u % 65536 = wk L k v u := fun u hu =>
      pack_digit (by decide) (fun w _ => by
        have h2 := wk_le L hL k v w
        have h3 := pow6_le k 6 (by omega)
        have h4 : (6 : Nat) ^ 6 < 65536 := by decide
        omega) hu
    rw [sumN_congr (g := fun u => sumN (fun w => wk L k v u * bt L u w * 65536 ^ w) L.length) fun u hu => by
      rw [h1 u hu, rowP, packN, ← sumN_mulL]
      exact sumN_congr fun w _ => by rw [Nat.mul_assoc], sumN_swap]
    unfold packN
    exact sumN_congr fun w _ => by rw [sumN_mulN]; rfl
def closedP (L : List Int) (k : Nat) : Nat := sumN (fun v => walkP L v k / 65536 ^ v % 65536) L.length
theorem closedP_is (L : List Int) (hL : L.length ≤ 6) (k : Nat) (hk : k ≤ 6) : closedP L k = closedN L k := by
  unfold closedP closedN
  exact sumN_congr fun v hv => by
    rw [walkP_is L hL v hv k hk]
    exact pack_digit (by decide) (fun w _ => by
      have h2 := wk_le L hL k v w
      have h3 := pow6_le k 6 (by omega)
      have h4 : (6 : Nat) ^ 6 < 65536 := by decide
      omega) hv

/-! ### Newton's sums -/
theorem eL_congr {p q : Nat → Int} {k : Nat} (h : ∀ i, 1 ≤ i → i ≤ k → p i = q i) : eL p k = eL q k := by
  induction k with
  | zero => rfl
  | succ k ih =>
    rw [eL, eL, ih (fun i h1 h2 => h i h1 (by omega))]
    rw [sumTo_congr (g := fun i => sg i * ((eL q k)[k - i]?.getD 0) * q (i + 1)) fun i hi => by rw [h (i + 1) (by omega) (by omega)]]
theorem eN_congr {p q : Nat → Int} {k : Nat} (h : ∀ i, 1 ≤ i → i ≤ k → p i = q i) : eN p k = eN q k := by unfold eN; rw [eL_congr h]
theorem eT_congr {p q : Nat → Int} {k j : Nat} (hj : j ≤ k) (h : ∀ i, 1 ≤ i → i ≤ k → p i = q i) : eT p k j = eT q k j :=
  sumTo_congr fun i hi => by rw [h (i + 1) (by omega) (by omega), eN_congr (fun t h1 h2 => h t h1 (by omega))]
/-- Newton's sums leave no rest, and the numbers above the number of nodes are 0. -/
def Newt (n : Nat) (p : Nat → Int) (k : Nat) : Prop := eT p k k = (k : Int) * (if k ≤ n then eN p k else 0)
instance (n : Nat) (p : Nat → Int) (k : Nat) : Decidable (Newt n p k) := inferInstanceAs (Decidable (_ = _))
theorem newt_congr {n : Nat} {p q : Nat → Int} {k : Nat} (h : ∀ i, 1 ≤ i → i ≤ k → p i = q i) (hq : Newt n q k) : Newt n p k := by
  unfold Newt at hq ⊢
  rw [eT_congr (Nat.le_refl k) h, eN_congr h, hq]
/-- **The numbers of the polynomial tell the sums.** -/
theorem newt_tells {n : Nat} {p q : Nat → Int} (hp : ∀ k, 1 ≤ k → k ≤ 6 → Newt n p k) (hq : ∀ k, 1 ≤ k → k ≤ 6 → Newt n q k) (he : ∀ k, k ≤ n → eN p k = eN q k) :
    ∀ k, k ≤ 6 → ∀ i, 1 ≤ i → i ≤ k → p i = q i
  | 0, _, i, h1, h2 => by omega
  | k + 1, hk, i, h1, h2 => by
    have ih := newt_tells hp hq he k (by omega)
    rcases Nat.eq_or_lt_of_le h2 with e | e
    · subst e
      have a := hp (k + 1) (by omega) hk
      have b := hq (k + 1) (by omega) hk
      unfold Newt at a b
      have hs : (if k + 1 ≤ n then eN p (k + 1) else 0) = if k + 1 ≤ n then eN q (k + 1) else 0 := by
        by_cases h : k + 1 ≤ n
        · rw [if_pos h, if_pos h, he _ h]
        · rw [if_neg h, if_neg h]
      rw [hs, ← b] at a
      rw [eT_succ, eT_succ] at a
      have hT : eT p (k + 1) k = eT q (k + 1) k := sumTo_congr fun i hi => by
        rw [ih (i + 1) (by omega) (by omega), eN_congr (p := p) (q := q) (k := k + 1 - 1 - i) (fun t h1 h2 => ih t h1 (by omega))]
      have h0 : k + 1 - 1 - k = 0 := by omega
      rw [hT, h0, eN_zero, eN_zero, Int.mul_one] at a
      rcases sg_or k with h | h <;> rw [h] at a <;> omega
    · exact ih i h1 (by omega)
end Go.Proofs.YtkngijkhhonikaaDoor
