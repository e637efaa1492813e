/- The two halves of a list, as they are read. -/
import Derived.Test.YtnnobbbljpaieaaDoorBaseA
namespace Go.Proofs.YtnnobbbljpaieaaDoor
open Go Go.RowKit
set_option linter.unusedVariables false

theorem Seen.take {w : World} {A : Option Addr} {xs : List Int} (h : Seen w A xs) (n : Nat) : Seen w A (xs.take n) := fun k hk => by
  rw [List.length_take] at hk
  obtain ⟨b, off, hA, hb, hc⟩ := h k (by omega)
  exact ⟨b, off, hA, hb, by rw [List.getElem?_take_of_lt (by omega)]; exact hc⟩
theorem Seen.drop {w : World} {b off : Nat} {xs : List Int} (h : Seen w (some ⟨b, off, none⟩) xs) (n : Nat) : Seen w (some ⟨b, off + n, none⟩) (xs.drop n) := fun k hk => by
  rw [List.length_drop] at hk
  obtain ⟨b', off', hA, hb, hc⟩ := h (n + k) (by omega)
  cases hA
  exact ⟨b, off + n, rfl, hb, by rw [List.getElem?_drop, Nat.add_assoc]; exact hc⟩
end Go.Proofs.YtnnobbbljpaieaaDoor
