/- Ways in trees: the next node by the program and by the model. -/
import Derived.Test.YtkngijkhhonikaaDoorMidMath
import Derived.Test.YtkngijkhhonikaaDoorFirstMath
import Derived.Test.YtkngijkhhonikaaDoorFlip
namespace Go.Proofs.YtkngijkhhonikaaDoor
open Go Go.RowKit
set_option linter.unusedVariables false
set_option maxRecDepth 100000

/-- What is reached from a neighbour without the edge to it. -/
def beyT (L : List Int) (a v : Nat) : Nat := reachN (flipG L a v) (2 ^ v)
def ddT (D : List (List Nat)) (b w : Nat) : Nat := (D[b]?.getD [])[w]?.getD 0
def wayB (L : List Int) (D : List (List Nat)) (n a b : Nat) : Bool :=
  ((List.range n).all fun v => !(Nat.beq (bt L a v) 1) || (Nat.beq (beyT L a v / 2 ^ b % 2) 1 == Nat.beq (ddT D b v + 1) (ddT D b a))) && ((List.range n).any fun v => Nat.beq (bt L a v) 1 && Nat.beq (ddT D b v + 1) (ddT D b a))
def wayC2 (L : List Int) (n : Nat) (D : List (List Nat)) : Bool := (List.range n).all fun a => (List.range n).all fun b => Nat.beq a b || wayB L D n a b
def wayC (L : List Int) : Bool := wayC2 L L.length ((List.range L.length).map (stepsT L))
theorem allP_four {p : Nat → Bool} {s : Nat} (h0 : allP p 10 s = true) (h1 : allP p 10 (s + 1024) = true) (h2 : allP p 10 (s + 2048) = true) (h3 : allP p 10 (s + 3072) = true) : allP p 12 s = true := by
  have a : allP p 11 s = true := by
    show (allP p 10 s && allP p 10 (s + 2 ^ 10)) = true
    rw [h0]; exact h1
  have b : allP p 11 (s + 2048) = true := by
    show (allP p 10 (s + 2048) && allP p 10 (s + 2048 + 2 ^ 10)) = true
    rw [h2]; exact h3
  show (allP p 11 s && allP p 11 (s + 2 ^ 11)) = true
  rw [a]; exact b
end Go.Proofs.YtkngijkhhonikaaDoor
