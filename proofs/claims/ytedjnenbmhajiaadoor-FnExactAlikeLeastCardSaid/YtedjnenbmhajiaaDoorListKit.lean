/- What the laws of a list and a bool share. -/
import Derived.Test.YtedjnenbmhajiaaDoorAsAny
namespace Go.Proofs.YtedjnenbmhajiaaDoor
open Go.RowKit
set_option linter.unusedVariables false

/-- A row stays while a row of other blocks is written. -/
theorem Row.keep {w1 w2 : World} {B : Nat} {v v' : Value} {xs : List Int} (h : Row w1 B v xs) (hne : ∀ a, v.ownBlock = some a → v'.ownBlock ≠ some a) (hg : w1.grownBy w2 v'.ownBlock) : Row w2 B v xs := by
  refine World.ownsRow.kept h hg ?_
  cases hv0 : v.ownBlock with
  | none => exact .inl rfl
  | some a => exact .inr fun e => hne a hv0 e.symm
theorem apart_of {v v' : Value} {a b c d : Nat} (h : ∀ k, v.ownBlock = some k → a ≤ k ∧ k < b) (h' : ∀ k, v'.ownBlock = some k → c ≤ k ∧ k < d) (hd : b ≤ c ∨ d ≤ a) : ∀ k, v.ownBlock = some k → v'.ownBlock ≠ some k := fun k hk e => by
  have h1 := h k hk
  have h2 := h' k e
  omega
/-- A row stays while what is no cells turns. -/
theorem row_kept {W W' : World} {B : Nat} {v : Value} {xs : List Int} {row : Option Nat} (h : Row W B v xs) (hg : W.grownBy W' row) (hr : ∀ r, row = some r → ∃ o : Obj, W.heap[r]? = some o ∧ o.isCells = false) : Row W' B v xs := by
  refine World.ownsRow.kept h hg ?_
  rcases h.2 with ⟨rfl, _⟩ | ⟨g, cap, cur, rfl, _, hgb, _⟩
  · exact .inl rfl
  · refine .inr fun e' => ?_
    obtain ⟨o, ho, hc⟩ := hr g (by simpa [Value.ownBlock] using e'.symm)
    rw [hgb] at ho
    cases ho
    cases hc
/-- A list as its sets, where each place is read in range. -/
def setsOf (L : List Int) : List Nat := L.map Int.toNat
end Go.Proofs.YtedjnenbmhajiaaDoor
