/- The listed table as the walks over up to twelve nodes read it. -/
import Derived.Test.YtnnobbbljpaieaaDoorBaseA
import Derived.Test.YtnnobbbljpaieaaDoorNodesT
namespace Go.Proofs.YtnnobbbljpaieaaDoor
open Go.ChangeShapes Go.WideShapes Go.ChangeAt Go.RowKit
set_option linter.unusedVariables false

theorem tabT_at : ∀ k : Fin 12, tabN.getD (tabIx k.val) 0 = (k.val : Int) := by decide +kernel
/-- Out of what a row lists: the table's cells. -/
theorem tabT_of_laid {W : World} (h : laidMetH Tryd.prog [("math/bits.deBruijn32tab", Rows.laid_math_bits_deBruijn32tab), ("math/bits.deBruijn64tab", Rows.laid_math_bits_deBruijn64tab)] W) : TabT W := by
  refine ⟨tab_of_laid h, ?_⟩
  have h1 : laidMet Tryd.prog [("math/bits.deBruijn32tab", Rows.laid_math_bits_deBruijn32tab), ("math/bits.deBruijn64tab", Rows.laid_math_bits_deBruijn64tab)] W := h
  have h2 : laidMet Tryd.prog [("math/bits.deBruijn64tab", Lib.tabData .u8 tabN)] W := laidMet.tail h1
  have h3 := Lib.tabIs_of_head (rest := []) gTab gTabType Tryd.underlying83 Tryd.underlying5 cellsByte cellsTab h2
  intro k hk
  have h4 := h3.cell gTab (tabIx k) (by have := tabIx_lt ⟨k, hk⟩; exact this)
  rw [h4, tabT_at ⟨k, hk⟩]
end Go.Proofs.YtnnobbbljpaieaaDoor
