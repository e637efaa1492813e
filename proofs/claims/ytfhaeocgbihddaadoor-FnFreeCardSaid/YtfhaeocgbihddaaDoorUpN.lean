/- The nodes of a set below a bound, in order. Plain mathematics, no condition. -/
import Derived.Test.YtfhaeocgbihddaaDoorBaseA
namespace Go.Proofs.YtfhaeocgbihddaaDoor
open Go Go.RowKit
set_option linter.unusedVariables false
set_option maxRecDepth 100000

def upN (s k : Nat) : List Nat := (List.range k).filter fun i => s / 2 ^ i % 2 == 1
theorem upN_zero (s : Nat) : upN s 0 = [] := rfl
theorem upN_succ (s k : Nat) : upN s (k + 1) = upN s k ++ (if s / 2 ^ k % 2 = 1 then [k] else []) := by
  unfold upN
  rw [List.range_succ, List.filter_append]
  by_cases h : s / 2 ^ k % 2 = 1 <;> simp [h]
theorem upN_length (s k : Nat) : (upN s k).length ≤ k := by
  have := List.length_filter_le (fun i => s / 2 ^ i % 2 == 1) (List.range k)
  simpa [upN] using this
theorem upN_all : ∀ (n : Fin 7) (s : Fin 64), s.val < 2 ^ n.val → upN s.val n.val = nodesL s.val := by decide +kernel
theorem nodes_lt {s n : Nat} (hs : s < 2 ^ n) : ∀ x ∈ nodesL s, x < n := fun x hx => bit_lt hs (nodes_mem.1 hx).2
end Go.Proofs.YtfhaeocgbihddaaDoor
