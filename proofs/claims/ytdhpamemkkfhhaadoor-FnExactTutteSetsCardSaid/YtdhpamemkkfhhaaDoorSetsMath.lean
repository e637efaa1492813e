/- The table by sets: the products that the program adds up, against the model's rows of numbers. -/
import Derived.Test.YtdhpamemkkfhhaaDoorTreesSum
import Derived.Test.YtdhpamemkkfhhaaDoorSpecLess
namespace Go.Proofs.YtdhpamemkkfhhaaDoor
open Go Go.RowKit
set_option linter.unusedVariables false
set_option maxRecDepth 100000

/-- x - 1 and y - 1, as the program makes them. -/
def tabXl : List (List Int) := plusT tabX [[-1]]
def tabYl : List (List Int) := plusT tabY [[-1]]
theorem tabXl_eq : tabXl = [[-1], [1]] := by decide +kernel
theorem tabYl_eq : tabYl = [[-1, 1]] := by decide +kernel
/-- Two rows of numbers, multiplied out into a table. -/
def outer (p q : List Int) : List (List Int) := p.map fun a => q.map fun b => wrap64 (a * b)
def lessXY (i j : Nat) : List (List Int) := rXY tabXl i tabYl j
theorem less_outer_all : ∀ i : Fin 6, ∀ j : Fin 11, lessXY i.val j.val = outer (lessL i.val) (lessL j.val) ∧ smallB 12 (lessXY i.val j.val) = true ∧ smallT (rX tabXl i.val) = true ∧ smallT (lessXY i.val j.val) = true := by decide +kernel
theorem less_outer {i j : Nat} (hi : i ≤ 5) (hj : j ≤ 10) : lessXY i j = outer (lessL i) (lessL j) := (less_outer_all ⟨i, by omega⟩ ⟨j, by omega⟩).1
theorem less_small {i j : Nat} (hi : i ≤ 5) (hj : j ≤ 10) : Small 12 (lessXY i j) := small_of (less_outer_all ⟨i, by omega⟩ ⟨j, by omega⟩).2.1
/-- The program's sum over all sets of edges. -/
def stStep (C : Nat) (T : List (List Int)) (s : Nat) : List (List Int) := plusT T (lessXY (rkT C - rkT s) (pcf 15 s - rkT s))
def stRun (C : Nat) (ss : List Nat) : List (List Int) := ss.foldl (stStep C) []
theorem stRun_snoc (C : Nat) (ss : List Nat) (s : Nat) : stRun C (ss ++ [s]) = stStep C (stRun C ss) s := by simp [stRun]
def setsP (C : Nat) : List (List Int) := stRun C (subsL C)
end Go.Proofs.YtdhpamemkkfhhaaDoor
