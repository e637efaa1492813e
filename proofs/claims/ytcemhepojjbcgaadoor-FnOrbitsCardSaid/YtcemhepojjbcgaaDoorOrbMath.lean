/- Which nodes a node is named; the sets of these, each once. Plain mathematics, no condition. -/
import Derived.Test.YtcemhepojjbcgaaDoorSpecAutos
import Derived.Test.YtcemhepojjbcgaaDoorBaseA
namespace Go.Proofs.YtcemhepojjbcgaaDoor
open Go Go.RowKit
set_option linter.unusedVariables false

theorem row_block {w : World} {B b n cap : Nat} {xs : List Int} (h : Row w B (.slice (some ⟨b, 0, none⟩) n cap) xs) : B ≤ b ∧ b < w.heap.size := by
  rcases h.2 with ⟨h0, _⟩ | ⟨g, cap', cur, h0, h1, h3, _⟩
  · cases h0
  · injection h0 with e1; injection e1 with e1; injection e1 with e1; subst e1; exact ⟨h1, (Array.getElem?_eq_some_iff.1 h3).1⟩
def setAt (R : List (List Nat)) (v : Nat) : Nat := R.foldl (fun s P => s ||| 2 ^ at_ P v) 0
theorem setAt_nil (v : Nat) : setAt [] v = 0 := rfl
theorem setAt_snoc (R : List (List Nat)) (P : List Nat) (v : Nat) : setAt (R ++ [P]) v = setAt R v ||| 2 ^ at_ P v := by simp [setAt]
theorem setAt_lt {n v : Nat} (hv : v < n) : ∀ R : List (List Nat), (∀ P ∈ R, Names n n P) → setAt R v < 2 ^ n := by
  intro R
  induction R using snoc_ind with
  | h0 => intro _; exact two_pos n
  | h1 l x ih =>
    intro h
    rw [setAt_snoc]
    have hx := h x (by simp)
    exact Nat.or_lt_two_pow (ih fun P hP => h P (by simp [hP])) (Nat.pow_lt_pow_right (by omega) (at_lt hx.2.2 (by rw [hx.1]; exact hv)))
/-- The sets so far, and the nodes in them. -/
def blkTo (f : Nat → Nat) : Nat → List Nat × Nat
  | 0 => ([], 0)
  | v + 1 => if (blkTo f v).2 / 2 ^ v % 2 = 1 then blkTo f v else ((blkTo f v).1 ++ [f v], (blkTo f v).2 ||| f v)
theorem blkTo_yes {f : Nat → Nat} {v : Nat} (h : (blkTo f v).2 / 2 ^ v % 2 = 1) : blkTo f (v + 1) = blkTo f v := by
  show (if _ then _ else _) = _
  rw [if_pos h]
theorem blkTo_no {f : Nat → Nat} {v : Nat} (h : ¬ (blkTo f v).2 / 2 ^ v % 2 = 1) : blkTo f (v + 1) = ((blkTo f v).1 ++ [f v], (blkTo f v).2 ||| f v) := by
  show (if _ then _ else _) = _
  rw [if_neg h]
theorem blkTo_lt {f : Nat → Nat} {n : Nat} (hf : ∀ u, u < n → f u < 2 ^ n) : ∀ v, v ≤ n → (blkTo f v).2 < 2 ^ n ∧ (blkTo f v).1.length ≤ v
  | 0, _ => ⟨two_pos n, Nat.le_refl _⟩
  | v + 1, h => by
    have ih := blkTo_lt hf v (by omega)
    by_cases hb : (blkTo f v).2 / 2 ^ v % 2 = 1
    · rw [blkTo_yes hb]; exact ⟨ih.1, by omega⟩
    · rw [blkTo_no hb]
      exact ⟨Nat.or_lt_two_pow ih.1 (hf v (by omega)), by simp; omega⟩
theorem blkTo_congr {f g : Nat → Nat} {n : Nat} (h : ∀ u, u < n → f u = g u) : ∀ v, v ≤ n → blkTo f v = blkTo g v
  | 0, _ => rfl
  | v + 1, hv => by
    have ih := blkTo_congr h v (by omega)
    by_cases hb : (blkTo f v).2 / 2 ^ v % 2 = 1
    · rw [blkTo_yes hb, blkTo_yes (by rw [← ih]; exact hb), ih]
    · rw [blkTo_no hb, blkTo_no (by rw [← ih]; exact hb), ih, h v (by omega)]
/-- **The orbits.** -/
def orbitsL (L : List Int) : List Nat := (blkTo (setAt (autosL L)) L.length).1
end Go.Proofs.YtcemhepojjbcgaaDoor
