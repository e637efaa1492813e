/- The other graph of a named graph is the named other graph. Plain mathematics, no condition. -/
import Derived.Test.YtneglpklkmoclaaDoorBaseG
import Derived.Test.YtneglpklkmoclaaDoorOtherGraph
namespace Go.Proofs.YtneglpklkmoclaaDoor
open Go Go.RowKit
set_option linter.unusedVariables false
set_option maxRecDepth 100000

theorem named_other {L : List Int} (hL : IsGraph L) {P : List Nat} (hP : Names L.length L.length P) : namedL (otherL L L.length) P = otherL (namedL L P) (namedL L P).length := by
  have hO := other_graph hL
  have hN := named_graph hL hP
  have hl1 := otherL_length L L.length
  have hl2 := namedL_length L P
  have hP' : Names (otherL L L.length).length (otherL L L.length).length P := by rw [hl1]; exact hP
  refine graph_ext (named_graph hO hP') (other_graph hN) (by rw [namedL_length, otherL_length, otherL_length, namedL_length]) fun i j hi hj => ?_
  rw [namedL_length, hl1] at hi hj
  obtain ⟨a, ha, rfl⟩ := at_surj hP hi
  obtain ⟨b, hb, rfl⟩ := at_surj hP hj
  rw [named_at hP' (by rw [hl1]; exact ha) (by rw [hl1]; exact hb)]
  refine bt_eq ?_
  rw [other_bt hL ha b, other_bt hN (by rw [hl2]; exact at_name hP ha) (at_ P b), named_at hP ha hb, hl2]
  exact ⟨fun ⟨_, x, y⟩ => ⟨at_name hP hb, x, fun e => y (at_inj hP ha hb e)⟩, fun ⟨_, x, y⟩ => ⟨hb, x, fun e => y (by rw [e])⟩⟩
end Go.Proofs.YtneglpklkmoclaaDoor
