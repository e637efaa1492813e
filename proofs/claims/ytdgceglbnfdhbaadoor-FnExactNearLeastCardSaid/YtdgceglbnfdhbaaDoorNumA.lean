/- How calls that tell a number end. -/
import Derived.Test.YtdgceglbnfdhbaaDoorBaseA
namespace Go.Proofs.YtdgceglbnfdhbaaDoor
open Go.RowKit
set_option linter.unusedVariables false

/-- How a call that tells a number ends. -/
def NumA (w : World) (x : Nat) (e : Ending) (w' : World) : Prop := e = .returned (.int .i64 (x : Nat)) ∧ Below w.heap.size w w'
theorem wrap_next (x : Int) : wrap64 (wrap64 x + 1) = wrap64 (x + 1) := by unfold wrap64; omega
theorem wrap_small (k : Nat) (h : k ≤ 1000000) : wrap64 (k : Int) = (k : Int) := by unfold wrap64; omega

/-- How a call that tells a number and a bool ends. -/
def NumOkA (w : World) (x : Nat) (ok : Bool) (e : Ending) (w' : World) : Prop := e = .returned (.tuple #[.int .i64 (x : Nat), .bool ok]) ∧ Below w.heap.size w w'
end Go.Proofs.YtdgceglbnfdhbaaDoor
