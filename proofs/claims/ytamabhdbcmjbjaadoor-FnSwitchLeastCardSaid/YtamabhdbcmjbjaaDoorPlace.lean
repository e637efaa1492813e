/- The place of a pair. -/
import Derived.Test.YtamabhdbcmjbjaaDoorBaseA
namespace Go.Proofs.YtamabhdbcmjbjaaDoor
open Go Go.RowKit Go.Shelf
attribute [local go_sem] Oper.semAt_some
set_option linter.unusedVariables false
set_option maxRecDepth 100000

set_option maxHeartbeats 1000000 in
theorem place_any (a b : Nat) (ha : a ≤ 6) (h1 : 1 ≤ b) (hb : b ≤ 5) (w : World) : Calls Tryd.prog 73 #[.int .i64 a, .int .i64 b] w fun e w' => e = .returned (.int .i64 ((b * (b - 1) / 2 + a : Nat) : Int)) ∧ w = w' := by
  have hc : b = 1 ∨ b = 2 ∨ b = 3 ∨ b = 4 ∨ b = 5 := by omega
  clear h1 hb
  rcases hc with rfl | rfl | rfl | rfl | rfl
  all_goals
    go_enter Tryd.func73, Tryd.ntmps73
    go_wp2
    go_ret
    refine ⟨ret_int ?_, rfl⟩
    try simp
    try (unfold wrap64; omega)
end Go.Proofs.YtamabhdbcmjbjaaDoor
