/- What a caller of slices.Values over a list of numbers keeps in hand: where the list lies; the list that is being collected. -/
import Derived.RangeFuncBox
import Derived.OwnWalkIn
import Derived.Test.YtnnobbbljpaieaaDoorBaseA
namespace Go.Proofs.YtnnobbbljpaieaaDoor
open Go.RowKit Go.Shelf
attribute [local go_sem] Oper.semAt_some
set_option linter.unusedVariables false
set_option maxRecDepth 100000

abbrev encI (x : Int) : Array Value := #[.int .i64 x]
/-- A list whose numbers lie in blocks below a bound. -/
def SeenB (n₀ : Nat) (w : World) (A : Option Addr) (xs : List Int) : Prop :=
  ∀ k, k < xs.length → ∃ b off, A = some ⟨b, off, none⟩ ∧ b < n₀ ∧ w.cell? ⟨b, off + k, none⟩ = some (.int .i64 (xs[k]?.getD 0))
theorem SeenB.below {n₀ : Nat} {w w' : World} {A : Option Addr} {xs : List Int} (h : SeenB n₀ w A xs) (hb : Below n₀ w w') : SeenB n₀ w' A xs := fun k hk => by
  obtain ⟨b, off, hA, hlt, hc⟩ := h k hk
  exact ⟨b, off, hA, hlt, (hb.cell (p := ⟨b, off + k, none⟩) hlt).trans hc⟩
theorem Seen.seenB {w : World} {A : Option Addr} {xs : List Int} (h : Seen w A xs) : SeenB w.heap.size w A xs := h

theorem take_snoc_int {xs : List Int} {k : Nat} (h : k < xs.length) : xs.take (k + 1) = xs.take k ++ [xs[k]?.getD 0] := by
  rw [List.take_succ_eq_append_getElem h, List.getElem?_eq_getElem h]; rfl

/-- Between two rounds: the box holds a list of the call's own: what has come. -/
def ColV (n₀ : Nat) (pre : List Int) (W : World) : Prop := ∃ v, Boxed W n₀ 22 v ∧ Row W n₀ v pre
theorem colV_own (n₀ : Nat) : Own (ColV n₀) := fun pre X Y row ⟨v, hb, hr⟩ hg hrow =>
  ⟨v, boxed_own _ _ (fun _ : Unit => _) () X Y row hb hg hrow, row_kept hr hg hrow⟩

end Go.Proofs.YtnnobbbljpaieaaDoor
