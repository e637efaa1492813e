/- All places of a square, row by row; a name as a natural number. Plain mathematics, no condition. -/
import Derived.Test.YtdgceglbnfdhbaaDoorNamesDef
namespace Go.Proofs.YtdgceglbnfdhbaaDoor
open Go Go.RowKit

def grid (n v : Nat) : List (Nat × Nat) := (List.range v).flatMap fun a => (List.range n).map fun b => (a, b)
def gridTo (n v x : Nat) : List (Nat × Nat) := grid n v ++ (List.range x).map fun b => (v, b)
theorem grid_zero (n : Nat) : grid n 0 = [] := rfl
theorem gridTo_zero (n v : Nat) : gridTo n v 0 = grid n v := by simp [gridTo]
theorem gridTo_succ (n v x : Nat) : gridTo n v (x + 1) = gridTo n v x ++ [(v, x)] := by simp [gridTo, List.range_succ]
theorem gridTo_end (n v : Nat) : gridTo n v n = grid n (v + 1) := by simp [gridTo, grid, List.range_succ]
theorem grid_all (n a b : Nat) : (a, b) ∈ grid n n ↔ a < n ∧ b < n := by
  unfold grid
  simp
theorem gridTo_mem (n v x : Nat) (hv : v < n) (hx : x ≤ n) : ∀ e ∈ gridTo n v x, e.1 < n ∧ e.2 < n := by
  rintro ⟨a, b⟩ h
  unfold gridTo grid at h
  simp at h
  omega

/-- A name. -/
def nm (P : List Int) (v : Nat) : Nat := (P[v]?.getD 0).toNat
theorem nm_int {P : List Int} {n v : Nat} (h : IsNames P n) (hv : v < n) : P[v]?.getD 0 = (nm P v : Int) ∧ nm P v < n := by
  have h1 := h.2.1 v (by rw [h.1]; exact hv)
  unfold InN at h1
  unfold nm
  omega
theorem nm_ne {P : List Int} {n v x : Nat} (h : IsNames P n) (hv : v < n) (hx : x < n) (hne : v ≠ x) : nm P v ≠ nm P x := fun e => by
  have h1 := h.2.2
  have hl : (natOf P).length = n := by simp [natOf, h.1]
  have hv2 : v < P.length := by have := h.1; omega
  have hx2 : x < P.length := by have := h.1; omega
  have g1 : (natOf P)[v]'(by omega) = nm P v := by simp [natOf, nm, hv2]
  have g2 : (natOf P)[x]'(by omega) = nm P x := by simp [natOf, nm, hx2]
  have hp := List.pairwise_iff_getElem.1 h1
  rcases Nat.lt_or_gt_of_ne hne with h | h
  · exact hp v x (by omega) (by omega) h (by rw [g1, g2]; exact e)
  · exact hp x v (by omega) (by omega) h (by rw [g1, g2]; exact e.symm)
theorem mrun_lt (L : List Int) (n : Nat) (p : Nat → Nat) (es : List (Nat × Nat)) (hp : ∀ e ∈ es, p e.2 < 6) : ∀ x ∈ mrun L n p es, x < 2 ^ 6 := by
  induction es using snoc_ind with
  | h0 => intro x hx; simp [mrun] at hx; omega
  | h1 l x ih =>
    rw [mrun_snoc]
    unfold orAt
    have h1 := ih (fun e he => hp e (by simp [he]))
    refine set_lt h1 _ _ (Nat.or_lt_two_pow (get_lt h1 _ (by decide)) ?_)
    exact bit_shift (bt_le _ _ _) (hp x (by simp))
end Go.Proofs.YtdgceglbnfdhbaaDoor
