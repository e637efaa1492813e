/- How far trees are: both ways the same, 0 just for equal trees, less than the number of nodes. Plain mathematics. -/
import Derived.Test.YtkngijkhhonikaaDoorTreeFarFns
import Derived.Test.YtkngijkhhonikaaDoorTreeProms
import Derived.Test.YtkngijkhhonikaaDoorPcfOr
namespace Go.Proofs.YtkngijkhhonikaaDoor
open Go Go.RowKit
set_option linter.unusedVariables false
set_option maxRecDepth 100000

theorem pcf_less {a b : Nat} (ha : a < 2 ^ 15) (hb : b < 2 ^ 15) : pcf 15 (less a b) + pcf 15 (a &&& b) = pcf 15 a := by
  have h1 : less a b ||| (a &&& b) = a := Nat.eq_of_testBit_eq fun j => by
    rw [Nat.testBit_or, lessT_bit hb, Nat.testBit_and]
    by_cases hj : j < 64
    · cases a.testBit j <;> cases b.testBit j <;> simp [hj]
    · rw [Nat.testBit_lt_two_pow (Nat.lt_of_lt_of_le ha (Nat.pow_le_pow_right (n := 2) (by decide) (by omega)))]; simp
  have h2 : less a b &&& (a &&& b) = 0 := Nat.eq_of_testBit_eq fun j => by
    rw [Nat.testBit_and, lessT_bit hb, Nat.testBit_and, Nat.zero_testBit]
    cases a.testBit j <;> cases b.testBit j <;> simp
  have h := pcf_or 15 (less a b) (a &&& b)
  rw [h1, h2, pcf_zero] at h
  omega
theorem far_facts {L M : List Int} (h : IsFar L M) : farN L M = farN M L ∧ farN L M < L.length ∧ (farN L M = 0 ↔ L = M) := by
  obtain ⟨⟨hL, hM⟩, hl⟩ := h
  have cL := code_15 hL.1.1
  have cM := code_15 hM.1.1
  have p1 := pcf_less cL cM
  have p2 := pcf_less cM cL
  rw [Nat.and_comm] at p2
  have eL : pcf 15 (codeOf L) + 1 = L.length := hL.2
  have eM : pcf 15 (codeOf M) + 1 = M.length := hM.2
  unfold farN
  refine ⟨by omega, by omega, fun h0 => ?_, fun e => ?_⟩
  · have hp : pcf 15 (codeOf L &&& codeOf M) = pcf 15 (codeOf L) := by omega
    have s1 := (pcf_sub 15 (codeOf L &&& codeOf M) (codeOf L) (by rw [Nat.and_comm, ← Nat.and_assoc, Nat.and_self])).2 (Nat.lt_of_le_of_lt Nat.and_le_left cL) cL hp
    have s2 := (pcf_sub 15 (codeOf L) (codeOf M) s1).2 cL cM (by omega)
    rw [← codeG_of hL.1.1, ← codeG_of hM.1.1, hl, s2]
  · subst e
    have : pcf 15 (codeOf L &&& codeOf L) = pcf 15 (codeOf L) := by rw [Nat.and_self]
    omega
theorem far_turn {L M : List Int} (h : IsFar L M) : IsFar M L := ⟨⟨h.1.2, h.1.1⟩, h.2.symm⟩
theorem farP_yes {L M : List Int} (h : IsFar L M) : farP L M = (farN L M, true) := if_pos h
theorem farP_no {L M : List Int} (h : ¬ IsFar L M) : farP L M = (0, false) := if_neg h
end Go.Proofs.YtkngijkhhonikaaDoor
