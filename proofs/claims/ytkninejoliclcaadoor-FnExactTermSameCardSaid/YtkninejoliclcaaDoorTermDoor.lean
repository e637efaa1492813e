/- What the cards' proofs of the terms share: the variable of package errors as the rows list it; how a row's call ends. -/
import Derived.Test.YtkninejoliclcaaDoorCards
import Derived.Test.YtkninejoliclcaaDoorTie
import Derived.Test.YtkninejoliclcaaDoorAsFn
import Derived.ProofKit
import Derived.OpenShut
import Derived.Carry
import Derived.ChangeSlices
import Derived.ChangeMaps5
import Derived.Deep.DeepHandedRow
import Derived.LaidLaws
import Derived.LaidHandle
import Derived.Stop.LaidErr
namespace Go.Proofs.YtkninejoliclcaaDoor
open Go.ChangeShapes Go.WideShapes Go.ChangeAt Go.RowKit
set_option linter.unusedVariables false
set_option maxRecDepth 100000

theorem own : ownKnob Tryd.prog.godebug = none := by kernel_rfl
theorem errVar : Tryd.prog.globalNamed "errors.errorType" = some 0 := by kernel_rfl
theorem errRt : (Tryd.prog.cutTypes.find? (·.1 == "internal/reflectlite.rtype")).map (·.2) = some 107 := by kernel_rfl
theorem errRow : ((List.range 184).filter fun t => Tryd.prog.rowNamed t [101, 114, 114, 111, 114]) = [58] := by kernel_rfl
theorem errSize : Tryd.prog.types.size = 184 := by kernel_rfl

/-- Out of what a row lists: the variable's cell. -/
theorem errT_of_laid {W : World} (h : laidMetH Tryd.prog [("errors.errorType", Rows.laid_errors_errorType)] W) : ErrT W := by
  have h' : laidMet Tryd.prog [] W ∧ handlesMet Tryd.prog [("errors.errorType", Rows.laid_errors_errorType)] W := h
  obtain ⟨name, u, ty, e1, e2, e3, e4, e5⟩ := h'.2 _ (List.mem_singleton.2 rfl)
  have en : name = [101, 114, 114, 111, 114] := (Option.some.inj e1).symm
  subst en
  obtain rfl := Option.some.inj (errRt.symm.trans e2)
  have hm : ty ∈ (List.range 184).filter fun t => Tryd.prog.rowNamed t [101, 114, 114, 111, 114] := List.mem_filter.2 ⟨List.mem_range.2 (by rw [← errSize]; exact e3), e4⟩
  rw [errRow] at hm
  obtain rfl := List.mem_singleton.1 hm
  have hh : typeHandle Tryd.prog 58 = .pointer (some ⟨4, 58, none⟩) := by kernel_rfl
  rw [hh] at e5
  have := World.var?_cell errVar e5 0
  simpa [ErrT] using this

/-- A world for the witness: the settled one, the variable laid. -/
noncomputable def laidWorld (os : Os) : World :=
  { World.holding Tryd.prog os ⟨#[], #[], []⟩ with heap := (World.holding Tryd.prog os ⟨#[], #[], []⟩).heap.modify 0 fun
      | .cells _ t frozen => .cells #[.iface 107 (.agg #[.pointer (some ⟨4, 58, none⟩)])] t frozen
      | o => o }

/-- A call that returns a bool, and left all elder blocks as they were, ends as the row asks. -/
theorem ends {H : Type} {enc : TypeId × Value → H} {s : ChangeSpec} {f : Func} {W W' : World} {args : Array Value} {ds : List (DataW H)} {before : List MemPlace} {b : Bool}
    (hs : s.vars = []) (hr : f.resultTypes = #[4]) (hspec : s.fn H (ds ++ []) = { results := [.lit (.bool b)], args := ds })
    (hW : DataW.Whole enc Tryd.prog f.params.toList s.vars false W args.toList ds [] before)
    (hargs : DataW.TrodAll enc Tryd.prog W' 0 (fun x => decide (x < W.heap.size)) true f.params.toList args.toList ds before)
    (hb : Below W.heap.size W W') : s.post enc Tryd.prog f false true false false W args (.bool b) W' := by
  refine ⟨ds, [], before, [], before, [], hW, ?_, by rw [hspec]; exact hargs, by rw [hs, hspec]; exact rfl, hb.frame _, fun h => by cases h⟩
  rw [hr, hspec]
  exact trodAll_cons_mk (shut_bool Tryd.underlying4 _) trodAll_mk0
end Go.Proofs.YtkninejoliclcaaDoor
