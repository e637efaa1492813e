/- pairs hands out its iterator. -/
import Derived.Test.YtedjnenbmhajiaaDoorPairs
namespace Go.Proofs.YtedjnenbmhajiaaDoor
open Go.RowKit Go.Shelf
set_option linter.unusedVariables false
/-- pairs hands out its iterator; the number of nodes lies in a box. -/
theorem pairs_any (m : Nat) (w : World) : Calls Tryd.prog 70 #[.int .i64 m] w fun e w' =>
    e = .returned (.func (.func 81) #[] #[.pointer (some ⟨w.heap.size, 0, none⟩)]) ∧ w.alloc (.cells #[.int .i64 m] 3) = w' := by
  have hmf : ∀ (fn : Fn) (first cap : Array Value) (w : World), (Instr.makeFunc fn first cap).run Tryd.prog w = .ok (.func fn first cap) w := fun _ _ _ _ => rfl
  go_enter Tryd.func70, Tryd.ntmps70
  go_wp2
  go_ret
  exact ⟨rfl, rfl⟩
theorem ne_some {a b : Nat} (h : a ≠ b) : some a ≠ some b := fun e => h (by injection e)
end Go.Proofs.YtedjnenbmhajiaaDoor
