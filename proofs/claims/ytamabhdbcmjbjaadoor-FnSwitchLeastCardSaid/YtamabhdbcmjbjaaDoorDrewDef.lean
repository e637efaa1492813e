/- What a draw of a graph of up to five nodes gives. -/
import Derived.Test.YtamabhdbcmjbjaaDoorBaseA
namespace Go.Proofs.YtamabhdbcmjbjaaDoor
open Go Go.RowKit
set_option linter.unusedVariables false

/-- What a draw of a graph gives: any short list. -/
def Drew (w : World) (e : Ending) (w' : World) : Prop := ∃ v L, e = .returned v ∧ 1 ≤ L.length ∧ L.length ≤ 5 ∧ Row w' w.heap.size v L ∧ Below w.heap.size w w'

/-- What a draw of a graph gives: any short list. -/
def Drew6 (w : World) (e : Ending) (w' : World) : Prop := ∃ v L, e = .returned v ∧ 1 ≤ L.length ∧ L.length ≤ 6 ∧ Row w' w.heap.size v L ∧ Below w.heap.size w w'
end Go.Proofs.YtamabhdbcmjbjaaDoor
