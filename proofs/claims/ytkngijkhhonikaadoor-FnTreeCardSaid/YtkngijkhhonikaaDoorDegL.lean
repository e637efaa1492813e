/- The degrees of a graph as a list. -/
import Derived.Test.YtkngijkhhonikaaDoorBaseW
import Derived.Test.YtkngijkhhonikaaDoorBaseA
namespace Go.Proofs.YtkngijkhhonikaaDoor
open Go.RowKit
set_option linter.unusedVariables false
set_option maxRecDepth 100000

def degL (L : List Int) (k : Nat) : List Int := (List.range k).map fun i => ((cnt (ent L i) : Nat) : Int)
theorem degL_succ (L : List Int) (k : Nat) : degL L (k + 1) = degL L k ++ [((cnt (ent L k) : Nat) : Int)] := by simp [degL, List.range_succ]
theorem degL_length (L : List Int) (k : Nat) : (degL L k).length = k := by simp [degL]

theorem nodes_all : ∀ n : Fin 7, nodesL (2 ^ n.val - 1) = List.range n.val := by decide
end Go.Proofs.YtkngijkhhonikaaDoor
