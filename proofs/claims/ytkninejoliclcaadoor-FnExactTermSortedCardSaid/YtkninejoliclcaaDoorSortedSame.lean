/- The sorted term of a text, if it is one; whether two texts have the same. -/
import Derived.Test.YtkninejoliclcaaDoorTermSort
namespace Go.Proofs.YtkninejoliclcaaDoor

def sv : Option Tm → List UInt8
  | some t => (t.td false).stx
  | none => []
def sameB (a b : Option Tm) : Bool := a.isSome && b.isSome && decide (sv a = sv b)
end Go.Proofs.YtkninejoliclcaaDoor
