/- The table by sets: the model's walk, and what is to be decided of each code. -/
import Derived.Test.YtdhpamemkkfhhaaDoorSetsMath
import Derived.Test.YtdhpamemkkfhhaaDoorForTab
namespace Go.Proofs.YtdhpamemkkfhhaaDoor
open Go Go.RowKit
set_option linter.unusedVariables false
set_option maxRecDepth 100000

/-- The model's inner loops: a row of products added to a row, and all rows. -/
def addRow (p : Int) (q : List Int) (R : List Int) : Nat → List Int
  | 0 => R
  | j + 1 => (addRow p q R j).set j (wrap64 ((addRow p q R j)[j]?.getD 0 + wrap64 (p * q[j]?.getD 0)))
def addRows (p q : List Int) (T : List (List Int)) : Nat → List (List Int)
  | 0 => T
  | i + 1 => (addRows p q T i).set i (addRow (p[i]?.getD 0) q ((addRows p q T i)[i]?.getD []) q.length)
def smStep (C : Nat) (T : List (List Int)) (s : Nat) : List (List Int) := addRows (lessL (rkT C - rkT s)) (lessL (pcf 15 s - rkT s)) T (lessL (rkT C - rkT s)).length
def smFrom (C : Nat) : Nat → Nat → List (List Int) → List (List Int)
  | 0, _, T => T
  | f + 1, s, T => if s = 0 then smStep C T s else smFrom C f ((s - 1) &&& C) (smStep C T s)
def setsS (C : Nat) : List (List Int) := smFrom C 1024 C (zeroT (rkT C) (pcf 15 C))
def setsOk (C : Nat) : Bool := dimsB (rkT C + 1) (pcf 15 C - rkT C + 1) (setsP C) && rowsP (rkT C) (pcf 15 C) (setsP C) == setsS C
end Go.Proofs.YtdhpamemkkfhhaaDoor
