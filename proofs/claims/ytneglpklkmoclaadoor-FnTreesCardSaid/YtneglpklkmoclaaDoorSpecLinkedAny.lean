/- The model's GraphLinked at each list (cut out of the law of GraphLinked). -/
import Derived.Test.YtneglpklkmoclaaDoorSpecLinked
import Derived.Test.YtneglpklkmoclaaDoorBaseA
namespace Go.Proofs.YtneglpklkmoclaaDoor
open Go Go.RowKit
set_option linter.unusedVariables false

theorem specLinked_any (B : Nat) (v : Value) (L : List Int) (b : Bool) (hb : b = true ↔ IsLinked L) (w : World) (h : Row w B v L) :
    Calls Tryd.prog 51 #[v] w (Looked w b) := by
  by_cases hL : IsGraph L
  · have e : decide (turns L L.length = 2 ^ L.length - 1) = b := by
      rw [Bool.eq_iff_iff, hb, decide_eq_true_eq]
      exact ⟨fun h => ⟨hL, h⟩, fun h => h.2⟩
    rw [← e]
    exact specLinked_yes B v L hL w h
  · have e : b = false := by
      cases b
      · rfl
      · exact absurd (hb.1 rfl).1 hL
    rw [e]
    exact specLinked_no B v L hL w h

end Go.Proofs.YtneglpklkmoclaaDoor
