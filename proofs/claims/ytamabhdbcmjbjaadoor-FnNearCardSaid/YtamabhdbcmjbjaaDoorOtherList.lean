/- The other graph, as a list. Plain mathematics, no condition. -/
import Derived.Test.YtamabhdbcmjbjaaDoorBaseA
import Derived.Test.YtamabhdbcmjbjaaDoorBaseG
namespace Go.Proofs.YtamabhdbcmjbjaaDoor
open Go Go.RowKit
set_option linter.unusedVariables false
set_option maxRecDepth 100000

/-- The other neighbours of a node. -/
def oth (L : List Int) (k : Nat) : Nat := less (less (2 ^ L.length - 1) (ent L k)) (2 ^ k)
def otherL (L : List Int) (k : Nat) : List Int := (List.range k).map fun i => ((oth L i : Nat) : Int)
theorem otherL_zero (L : List Int) : otherL L 0 = [] := rfl
theorem otherL_succ (L : List Int) (k : Nat) : otherL L (k + 1) = otherL L k ++ [((oth L k : Nat) : Int)] := by simp [otherL, List.range_succ]
theorem otherL_length (L : List Int) (k : Nat) : (otherL L k).length = k := by simp [otherL]

/-- What the operations yield at one node. -/
theorem oth_step {L : List Int} (hg : IsGraph L) {k : Nat} (hk : k < L.length) : ∃ X P Q p y z : Nat, L[k]?.getD 0 = (X : Int) ∧ X < 64 ∧ Q + 1 = 2 ^ L.length ∧ (wrap64 ((2 : Int) ^ L.length) = (P : Int) ∧ IntKind.i64.wrap ((2 : Int) ^ L.length) = (P : Int) ∧ (P : Int) - 1 = (Q : Int) ∧ IntKind.i64.wrap ((P : Int) - 1) = (Q : Int) ∧ IntKind.i64.wrap (Q : Int) = (Q : Int)) ∧
    (wrap64 ((2 : Int) ^ k) = (p : Int) ∧ IntKind.i64.wrap ((2 : Int) ^ k) = (p : Int)) ∧ bits .andNot .i64 (Q : Int) (X : Int) = (y : Int) ∧ bits .andNot .i64 (y : Int) (p : Int) = (z : Int) ∧ z = oth L k := by
  have h6 := hg.2.1
  have hin := (hg.2.2 k hk).1
  have hX := ent_int hin
  have hXl := ent_lt hin
  have h64 := two_le h6
  have hX64 : ent L k < 64 := by omega
  have hk6 : k ≤ 6 := by omega
  clear hin hXl h64 hk
  obtain ⟨P, Q, hP, hQ, hP64, pf⟩ := shl_facts L.length h6
  have HPF := Lib.hid pf
  clear pf
  have hQ64 : Q < 64 := by omega
  have hQ2 : Q + 1 = 2 ^ L.length := by omega
  obtain ⟨P2, Q2, hP2, hQ22, hP264, qf⟩ := shl_facts k hk6
  have HQF := Lib.hid qf
  clear qf
  have f1 := less_op Q (ent L k) (Nat.lt_trans hQ64 (by decide)) (Nat.lt_trans hX64 (by decide))
  have hy : less Q (ent L k) < 64 := Nat.lt_of_le_of_lt (less_le Q (ent L k)) hQ64
  have f2 := less_op (less Q (ent L k)) P2 (Nat.lt_trans hy (by decide)) (Nat.lt_of_le_of_lt hP264 (by decide))
  have e : 2 ^ L.length - 1 = Q := by rw [← hQ2]; rfl
  obtain ⟨p1, p2, p3, p4, p5⟩ := HPF.out
  obtain ⟨q1, q2, _, _, _⟩ := HQF.out
  refine ⟨ent L k, P, Q, P2, less Q (ent L k), less (less Q (ent L k)) P2, hX, hX64, hQ2, ⟨p1, p2, p3, p4, p5⟩, ⟨q1, q2⟩, f1, f2, ?_⟩
  unfold oth
  rw [e, ← hP2]
end Go.Proofs.YtamabhdbcmjbjaaDoor
