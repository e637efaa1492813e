/- Numbers of neighbours that a tree may have: mathematics. -/
import Derived.Test.YtoipcdhofhpkfaaBaseA
import Derived.Test.YtoipcdhofhpkfaaFac
namespace Go.Proofs.Ytoipcdhofhpkfaa
open Go Go.RowKit
set_option linter.unusedVariables false
set_option maxRecDepth 100000

def dN (L : List Int) (j : Nat) : Nat := (L[j]?.getD 0).toNat
def sumD (L : List Int) : Nat → Nat
  | 0 => 0
  | k + 1 => sumD L k + dN L k
def leastD (L : List Int) : Nat → Nat
  | 0 => 6
  | k + 1 => min (leastD L k) (dN L k)
def quoD (L : List Int) (n : Nat) : Nat → Nat
  | 0 => fac (n - 2)
  | k + 1 => quoD L n k / fac (dN L k - 1)
def OkD (L : List Int) (j : Nat) : Prop := 0 ≤ L[j]?.getD 0 ∧ L[j]?.getD 0 ≤ 6
def InD (L : List Int) : Prop := (1 ≤ L.length ∧ L.length ≤ 6) ∧ ∀ j, j < L.length → OkD L j
def treesD (L : List Int) : Nat := if L.length = 1 then 1 - min 1 (dN L 0) else if sumD L L.length = 2 * L.length - 2 ∧ 1 ≤ leastD L L.length then quoD L L.length L.length else 0
open Classical in
noncomputable def degP (L : List Int) : Nat × Bool := if InD L then (treesD L, true) else (0, false)
theorem okD_int {L : List Int} {j : Nat} (h : OkD L j) : L[j]?.getD 0 = ((dN L j : Nat) : Int) ∧ dN L j ≤ 6 := by
  unfold dN
  have h1 := h.1
  have h2 := h.2
  omega
theorem sumD_le {L : List Int} {k : Nat} (h : ∀ j, j < k → OkD L j) : sumD L k ≤ 6 * k := by
  induction k with
  | zero => simp [sumD]
  | succ k ih =>
    have h1 := ih fun j hj => h j (by omega)
    have h2 := (okD_int (h k (by omega))).2
    simp only [sumD]
    omega
theorem leastD_le (L : List Int) (k : Nat) : leastD L k ≤ 6 := by
  induction k with
  | zero => simp [leastD]
  | succ k ih => simp only [leastD]; omega
theorem leastD_pos {L : List Int} {k : Nat} : 1 ≤ leastD L k ↔ ∀ j, j < k → 1 ≤ dN L j := by
  induction k with
  | zero => simp [leastD]
  | succ k ih =>
    simp only [leastD]
    constructor
    · intro h j hj
      by_cases e : j = k
      · rw [e]; omega
      · exact ih.1 (by omega) j (by omega)
    · intro h
      have h1 := ih.2 fun j hj => h j (by omega)
      have h2 := h k (by omega)
      omega
theorem quoD_le (L : List Int) (n : Nat) (hn : n ≤ 6) (k : Nat) : quoD L n k ≤ 720 := by
  induction k with
  | zero => exact fac_le ⟨n - 2, by omega⟩
  | succ k ih => exact Nat.le_trans (Nat.div_le_self _ _) ih
theorem fac_pos : ∀ k, 1 ≤ fac k
  | 0 => Nat.le_refl _
  | k + 1 => by have := fac_pos k; simp only [fac]; exact Nat.le_trans this (Nat.le_mul_of_pos_right _ (by omega))
/-- A quotient by a factorial, step by step. -/
theorem quo_fac (q k : Nat) (hk : 1 ≤ k) : q / fac (k - 1) / k = q / fac k := by
  obtain ⟨m, rfl⟩ : ∃ m, k = m + 1 := ⟨k - 1, by omega⟩
  rw [Nat.add_sub_cancel, Nat.div_div_eq_div_mul]
  rfl
end Go.Proofs.Ytoipcdhofhpkfaa
