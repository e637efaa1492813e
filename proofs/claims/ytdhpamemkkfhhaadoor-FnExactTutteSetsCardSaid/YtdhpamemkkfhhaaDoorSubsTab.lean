/- The next subset of a set of edges: a table over all. Plain mathematics. -/
import Derived.Test.YtdhpamemkkfhhaaDoorActMath
namespace Go.Proofs.YtdhpamemkkfhhaaDoor
open Go Go.RowKit
set_option linter.unusedVariables false
set_option maxRecDepth 100000

def nxt (C s : Nat) : Nat := ((s + 1024 - C) % 1024) &&& C
def subOk (C : Nat) : Bool := allN (fun s => if s &&& C == s then (if s == C then true else decide (s < nxt C s) && nxt C s &&& C == nxt C s) else true) 1024
theorem sub_ok0 : allN (fun C => subOk C) 256 = true := by decide +kernel
theorem sub_ok1 : allN (fun C => subOk (256 + C)) 256 = true := by decide +kernel
theorem sub_ok2 : allN (fun C => subOk (512 + C)) 256 = true := by decide +kernel
theorem sub_ok3 : allN (fun C => subOk (768 + C)) 256 = true := by decide +kernel
end Go.Proofs.YtdhpamemkkfhhaaDoor
