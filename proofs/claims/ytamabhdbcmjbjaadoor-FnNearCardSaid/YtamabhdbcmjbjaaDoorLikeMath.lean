/- Whether a beginning of names fits two graphs; namings hands out its iterator. -/
import Derived.Test.YtamabhdbcmjbjaaDoorBaseA
import Derived.Test.YtamabhdbcmjbjaaDoorBaseG
import Derived.Test.YtamabhdbcmjbjaaDoorNamings
namespace Go.Proofs.YtamabhdbcmjbjaaDoor
open Go.RowKit Go.Shelf
attribute [local go_sem] Oper.semAt_some
set_option linter.unusedVariables false
set_option maxRecDepth 100000

theorem seen_at {W : World} {b o k : Nat} {xs : List Int} (h : Seen W (some ⟨b, o, none⟩) xs) (hk : k < xs.length) : W.cell? ⟨b, o + k, none⟩ = some (.int .i64 (xs[k]?.getD 0)) := by
  obtain ⟨b2, o2, e1, _, hc⟩ := h k hk
  obtain ⟨rfl, rfl⟩ : b = b2 ∧ o = o2 := by injection e1 with e; injection e with e1 e2; exact ⟨e1, e2⟩
  exact hc

theorem bits_eq {u t : Nat} (hu : u < 2) (ht : t < 2) : (u == t) = ((u == 1) == (t == 1)) := by
  have h1 : u = 0 ∨ u = 1 := by omega
  have h2 : t = 0 ∨ t = 1 := by omega
  rcases h1 with rfl | rfl <;> rcases h2 with rfl | rfl <;> rfl
theorem namings_any (n fid : Nat) (cap : Array Value) (w : World) : Calls Tryd.prog 58 #[.int .i64 n, .func (.func fid) #[] cap] w fun e w' =>
    e = .returned (.func (.func 74) #[] #[.pointer (some ⟨w.heap.size, 0, none⟩), .pointer (some ⟨w.heap.size + 1, 0, none⟩)]) ∧ (w.alloc (.cells #[.int .i64 n] 3)).alloc (.cells #[.func (.func fid) #[] cap] 42) = w' := by
  have hmf : ∀ (fn : Fn) (first cap : Array Value) (w : World), (Instr.makeFunc fn first cap).run Tryd.prog w = .ok (.func fn first cap) w := fun _ _ _ _ => rfl
  go_enter Tryd.func58, Tryd.ntmps58
  go_wp2
  go_ret
  exact ⟨rfl, rfl⟩
end Go.Proofs.YtamabhdbcmjbjaaDoor
