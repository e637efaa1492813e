/- The number of members of a small set. -/
import Derived.Test.YtamabhdbcmjbjaaDoorBaseA
namespace Go.Proofs.YtamabhdbcmjbjaaDoor
open Go.RowKit
set_option linter.unusedVariables false

/-- The number of members. -/
def cnt (x : Nat) : Nat := x % 2 + x / 2 % 2 + x / 4 % 2 + x / 8 % 2 + x / 16 % 2 + x / 32 % 2
theorem cnt_step : ∀ x : Fin 64, cnt x.val = x.val % 2 + cnt (x.val / 2) := by decide +kernel

end Go.Proofs.YtamabhdbcmjbjaaDoor
