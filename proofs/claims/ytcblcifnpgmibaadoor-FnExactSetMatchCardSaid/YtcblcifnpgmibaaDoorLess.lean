/- A set less another one. -/
import Derived.Test.YtcblcifnpgmibaaDoorBaseA
namespace Go.Proofs.YtcblcifnpgmibaaDoor
open Go Go.RowKit

/-- The nodes of one set that are none of the other one's. -/
def less (a b : Nat) : Nat := a &&& (18446744073709551615 - b)
theorem less_le (a b : Nat) : less a b ≤ a := Nat.and_le_left
theorem less_op (a b : Nat) (ha : a < 1048576) (hb : b < 1048576) : bits .andNot .i64 (a : Int) (b : Int) = ((less a b : Nat) : Int) := i64_andNot_nat a b (by omega) (by omega)
end Go.Proofs.YtcblcifnpgmibaaDoor
