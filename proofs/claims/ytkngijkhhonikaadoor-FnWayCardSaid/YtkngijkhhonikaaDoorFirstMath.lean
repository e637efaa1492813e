/- The first tree of a linked graph: edge by edge, and as the least code. -/
import Derived.Test.YtkngijkhhonikaaDoorTreeCodes
import Derived.Test.YtkngijkhhonikaaDoorReachMath
namespace Go.Proofs.YtkngijkhhonikaaDoor
open Go Go.RowKit
set_option linter.unusedVariables false
set_option maxRecDepth 100000

/-- Whether edges of a set lead from a node to another one. -/
def ldG (n s a b : Nat) : Nat := reachN (codeG n s) (2 ^ a) / 2 ^ b % 2
def plc (e : Nat × Nat) : Nat := e.2 * (e.2 - 1) / 2 + e.1
def frStep (n s : Nat) (e : Nat × Nat) : Nat := if ldG n s e.1 e.2 = 1 then s else s ||| 2 ^ plc e
def frRun (n : Nat) (es : List (Nat × Nat)) : Nat := es.foldl (frStep n) 0
def lkB (n c : Nat) : Bool := Nat.beq (turns (codeG n c) n) (2 ^ n - 1)
theorem frRun_snoc (n : Nat) (es : List (Nat × Nat)) (e : Nat × Nat) : frRun n (es ++ [e]) = frStep n (frRun n es) e := by simp [frRun]
def frT (L : List Int) : Nat := frRun L.length (edgesIn L (rows L.length))
end Go.Proofs.YtkngijkhhonikaaDoor
