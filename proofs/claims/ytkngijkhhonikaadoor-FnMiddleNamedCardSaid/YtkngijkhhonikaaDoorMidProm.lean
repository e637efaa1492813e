/- What middles of trees promise: one or two, neighbours, named as nodes are. Plain mathematics, by the list of all trees. -/
import Derived.Test.YtkngijkhhonikaaDoorTreeProms
import Derived.Test.YtkngijkhhonikaaDoorMidMath
namespace Go.Proofs.YtkngijkhhonikaaDoor
open Go Go.RowKit
set_option linter.unusedVariables false
set_option maxRecDepth 100000

/-! ### middles -/
def revB (n m : Nat) : Nat → Nat
  | 0 => 0
  | k + 1 => revB n m k ||| (m / 2 ^ k % 2) * 2 ^ (n - 1 - k)
def midV (L : List Int) (m v : Nat) : Bool := Nat.beq (m / 2 ^ v % 2) 0 || Nat.beq m (2 ^ v) || !Nat.beq (ent L v &&& m) 0
def midQ (L : List Int) (n m : Nat) : Bool := (Nat.beq (cnt m) 1 || Nat.beq (cnt m) 2) && Nat.blt m (2 ^ n) && (List.range n).all (midV L m) && Nat.beq (midT (namedL L (rv n n))) (revB n m n)
def midP (L : List Int) : Bool := midQ L L.length (midT L)
theorem midP_1 : midP (codeG 1 0) = true := by decide +kernel
theorem midP_2 : midP (codeG 2 1) = true := by decide +kernel
theorem midP_3 : ((flt (treeB 3) 3 0).all fun c => midP (codeG 3 c)) = true := by decide +kernel
theorem midP_4 : ((flt (treeB 4) 6 0).all fun c => midP (codeG 4 c)) = true := by decide +kernel
theorem midP_5 : (tr5.all fun c => midP (codeG 5 c)) = true := by decide +kernel
theorem midP_60 : (tr6p0.all fun c => midP (codeG 6 c)) = true := by decide +kernel
theorem midP_61 : (tr6p1.all fun c => midP (codeG 6 c)) = true := by decide +kernel
theorem midP_62 : (tr6p2.all fun c => midP (codeG 6 c)) = true := by decide +kernel
theorem midP_63 : (tr6p3.all fun c => midP (codeG 6 c)) = true := by decide +kernel
theorem midP_64 : (tr6p4.all fun c => midP (codeG 6 c)) = true := by decide +kernel
theorem midP_65 : (tr6p5.all fun c => midP (codeG 6 c)) = true := by decide +kernel
theorem midP_66 : (tr6p6.all fun c => midP (codeG 6 c)) = true := by decide +kernel
theorem midP_67 : (tr6p7.all fun c => midP (codeG 6 c)) = true := by decide +kernel
theorem midP_6 : (tr6.all fun c => midP (codeG 6 c)) = true := by
  unfold tr6
  simp only [List.all_append, midP_60, midP_61, midP_62, midP_63, midP_64, midP_65, midP_66, midP_67, Bool.and_self]
theorem mid_prom {L : List Int} (h : IsTree L) : (cnt (midT L) = 1 ∨ cnt (midT L) = 2) ∧ midT L < 2 ^ L.length ∧ (∀ v, v < L.length → midT L / 2 ^ v % 2 = 1 → midT L = 2 ^ v ∨ ent L v &&& midT L ≠ 0) ∧ midT (namedL L (rv L.length L.length)) = revB L.length (midT L) L.length := by
  have key : midP L = true := by_tr midP_1 midP_2 midP_3 midP_4 midP_5 midP_6 h
  unfold midP midQ at key
  rw [Bool.and_eq_true, Bool.and_eq_true, Bool.and_eq_true, Bool.or_eq_true] at key
  obtain ⟨⟨⟨k1, k2⟩, k3⟩, k4⟩ := key
  refine ⟨?_, ?_, fun v hv hb => ?_, Nat.eq_of_beq_eq_true k4⟩
  · rcases k1 with k | k
    · exact .inl (Nat.eq_of_beq_eq_true k)
    · exact .inr (Nat.eq_of_beq_eq_true k)
  · exact Nat.le_of_ble_eq_true k2
  · have kv := List.all_eq_true.1 k3 v (List.mem_range.2 hv)
    unfold midV at kv
    rw [hb, Bool.or_eq_true, Bool.or_eq_true] at kv
    rcases kv with (kv | kv) | kv
    · exact absurd (Nat.eq_of_beq_eq_true kv) (by decide)
    · exact .inl (Nat.eq_of_beq_eq_true kv)
    · refine .inr fun e => ?_
      rw [e] at kv
      exact absurd kv (by decide)
end Go.Proofs.YtkngijkhhonikaaDoor
