/- Ways back by the list of all trees. -/
import Derived.Test.YtkngijkhhonikaaDoorWayMath
import Derived.Test.YtkngijkhhonikaaDoorTreeProms
namespace Go.Proofs.YtkngijkhhonikaaDoor
open Go Go.RowKit
set_option linter.unusedVariables false
set_option maxRecDepth 100000

def nxD (L : List Int) (D : List (List Nat)) (n b x : Nat) : Nat := ((List.range n).find? fun v => bt L x v == 1 && ddT D b v + 1 == ddT D b x).getD x
def pathD (L : List Int) (D : List (List Nat)) (n b : Nat) : Nat → Nat → List Nat
  | 0, x => [x]
  | k + 1, x => x :: pathD L D n b k (nxD L D n b x)
def revW (L : List Int) (n : Nat) (D : List (List Nat)) : Bool := (List.range n).all fun a => (List.range a).all fun b =>
  Nat.beq (ddT D a b) (ddT D b a) && (pathD L D n b (ddT D b a) a == (pathD L D n a (ddT D a b) b).reverse)
def revP (L : List Int) : Bool := revW L L.length ((List.range L.length).map (stepsT L))
theorem revP_1 : revP (codeG 1 0) = true := by decide +kernel
theorem revP_2 : revP (codeG 2 1) = true := by decide +kernel
theorem revP_3 : ((flt (treeB 3) 3 0).all fun c => revP (codeG 3 c)) = true := by decide +kernel
theorem revP_4 : ((flt (treeB 4) 6 0).all fun c => revP (codeG 4 c)) = true := by decide +kernel
theorem revP_5 : (tr5.all fun c => revP (codeG 5 c)) = true := by decide +kernel
theorem revP_60 : (tr6p0.all fun c => revP (codeG 6 c)) = true := by decide +kernel
theorem revP_61 : (tr6p1.all fun c => revP (codeG 6 c)) = true := by decide +kernel
theorem revP_62 : (tr6p2.all fun c => revP (codeG 6 c)) = true := by decide +kernel
theorem revP_63 : (tr6p3.all fun c => revP (codeG 6 c)) = true := by decide +kernel
theorem revP_64 : (tr6p4.all fun c => revP (codeG 6 c)) = true := by decide +kernel
theorem revP_65 : (tr6p5.all fun c => revP (codeG 6 c)) = true := by decide +kernel
theorem revP_66 : (tr6p6.all fun c => revP (codeG 6 c)) = true := by decide +kernel
theorem revP_67 : (tr6p7.all fun c => revP (codeG 6 c)) = true := by decide +kernel
theorem revP_6 : (tr6.all fun c => revP (codeG 6 c)) = true := by
  unfold tr6
  simp only [List.all_append, revP_60, revP_61, revP_62, revP_63, revP_64, revP_65, revP_66, revP_67, Bool.and_self]
end Go.Proofs.YtkngijkhhonikaaDoor
