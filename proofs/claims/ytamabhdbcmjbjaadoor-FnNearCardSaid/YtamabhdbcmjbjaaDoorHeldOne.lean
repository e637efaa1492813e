/- A region that draws its order, inside a round of a range over a function, under a condition on the world: one operation alone may come up. -/
import Derived.Test.YtamabhdbcmjbjaaDoorBaseA
namespace Go.Proofs.YtamabhdbcmjbjaaDoor
open Go
set_option linter.unusedVariables false

section
variable {P : Program} {ops : Array Oper} {md : Region.Mode} {S : World → Prop}
theorem wpAnyH_one {K : Act → World → Prop} {i f : Nat} {o : Oper} {listed : Array Bool} {a : Act} {w : World} (hr : Region.ready md ops listed = [i]) (ho : ops[i]? = some o)
    (h : wpList P ops (AtN fun a' w' => S w' ∧ wpAnyH P md ops (AtN K) S f (listed.setIfInBounds i true) a' w') [o] a w) : wpAnyH P md ops (AtN K) S (f + 1) listed a w := by
  refine ⟨fun h1 => (by rw [hr] at h1; cases h1), fun j hj => ?_⟩
  rw [hr] at hj
  have hji : j = i := by simpa using hj
  subst hji
  have hw : wpOp P ops (AtN fun a' w' => S w' ∧ wpAnyH P md ops (AtN K) S f (listed.setIfInBounds j true) a' w') j (fun a' w' => S w' ∧ wpAnyH P md ops (AtN K) S f (listed.setIfInBounds j true) a' w') a w := by
    unfold wpOp; simp only [ho]; exact h
  exact wpOp_atN (fun a' w' h' => h') hw
end
end Go.Proofs.YtamabhdbcmjbjaaDoor
