/- What GraphOf answers. -/
import Derived.Test.YtkngijkhhonikaaDoorBaseG
namespace Go.Proofs.YtkngijkhhonikaaDoor
open Go.RowKit
set_option linter.unusedVariables false

/-- The two arguments as the model reads them: a graph, or none. -/
def ofSaid (n c : Int) : List Int × Bool := if 1 ≤ n ∧ n ≤ 6 ∧ 0 ≤ c ∧ c < (codes n.toNat : Int) then (ints (ofCode n.toNat c.toNat), true) else ([], false)
end Go.Proofs.YtkngijkhhonikaaDoor
