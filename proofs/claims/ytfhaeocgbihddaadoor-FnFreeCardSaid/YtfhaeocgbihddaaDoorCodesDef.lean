/- The number of codes. -/
import Derived.Test.YtfhaeocgbihddaaDoorBaseA
namespace Go.Proofs.YtfhaeocgbihddaaDoor
open Go
/-- The number of codes of n nodes. -/
def codes (n : Nat) : Nat := 2 ^ (n * (n - 1) / 2)
end Go.Proofs.YtfhaeocgbihddaaDoor
