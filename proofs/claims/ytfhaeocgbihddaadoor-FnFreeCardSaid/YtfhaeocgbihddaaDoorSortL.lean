/- A list of numbers in order. Plain mathematics, no condition. -/
import Derived.Test.YtfhaeocgbihddaaDoorBaseA
namespace Go.Proofs.YtfhaeocgbihddaaDoor
open Go Go.RowKit
set_option linter.unusedVariables false
set_option maxRecDepth 100000

/-- A list in order. -/
def sortL (xs : List Int) : List Int := xs.mergeSort (fun x y => decide (x ≤ y))
theorem sortL_length (xs : List Int) : (sortL xs).length = xs.length := by unfold sortL; exact List.length_mergeSort xs
theorem sortL_perm (xs : List Int) : (sortL xs).Perm xs := List.mergeSort_perm xs _
theorem sortL_nil : sortL [] = [] := by simp [sortL]
/-- A list that is in order and a permutation is the list in order. -/
theorem sortL_of {xs ys : List Int} (hp : ys.Perm xs) (hs : ys.Pairwise (· ≤ ·)) : ys = sortL xs := by
  refine List.Perm.eq_of_pairwise (le := fun x y : Int => x ≤ y) (fun a b _ _ h1 h2 => Int.le_antisymm h1 h2) hs ?_ (hp.trans (sortL_perm xs).symm)
  have h := List.pairwise_mergeSort (le := fun x y : Int => decide (x ≤ y)) (fun a b c h1 h2 => by simp at *; omega) (fun a b => by simp; omega) xs
  exact h.imp (fun h => by simpa using h)
end Go.Proofs.YtfhaeocgbihddaaDoor
