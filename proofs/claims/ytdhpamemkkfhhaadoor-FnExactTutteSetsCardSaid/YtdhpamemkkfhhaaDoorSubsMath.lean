/- The subsets of a set of edges, one behind the other. Plain mathematics. -/
import Derived.Test.YtdhpamemkkfhhaaDoorSubsTab
namespace Go.Proofs.YtdhpamemkkfhhaaDoor
open Go Go.RowKit
set_option linter.unusedVariables false
set_option maxRecDepth 100000

def subsFrom (C : Nat) : Nat → Nat → List Nat
  | 0, s => [s]
  | f + 1, s => if s = C then [s] else s :: subsFrom C f (nxt C s)
def subsL (C : Nat) : List Nat := subsFrom C 1024 0
theorem nxt_facts {C s : Nat} (hC : C < 1024) (hs : s &&& C = s) (hne : s ≠ C) : s < nxt C s ∧ nxt C s &&& C = nxt C s := by
  have hsC : s ≤ C := by rw [← hs]; exact Nat.and_le_right
  have hok : subOk C = true := by
    by_cases h0 : C < 256
    · exact allN_spec sub_ok0 C h0
    · by_cases h1 : C < 512
      · have := allN_spec sub_ok1 (C - 256) (by omega)
        rwa [show 256 + (C - 256) = C by omega] at this
      · by_cases h2 : C < 768
        · have := allN_spec sub_ok2 (C - 512) (by omega)
          rwa [show 512 + (C - 512) = C by omega] at this
        · have := allN_spec sub_ok3 (C - 768) (by omega)
          rwa [show 768 + (C - 768) = C by omega] at this
  have h := allN_spec hok s (by omega)
  rw [if_pos (by rw [hs]; exact beq_self_eq_true _), if_neg (by simpa using hne), Bool.and_eq_true, decide_eq_true_eq, beq_iff_eq] at h
  exact h
theorem subsFrom_end (C f : Nat) : subsFrom C f C = [C] := by
  cases f with
  | zero => rfl
  | succ f => unfold subsFrom; rw [if_pos rfl]
theorem subsFrom_more {C s : Nat} (hC : C < 1024) (hs : s &&& C = s) (f : Nat) (hf : C - s ≤ f) (k : Nat) : subsFrom C (f + k) s = subsFrom C f s := by
  induction f generalizing s with
  | zero =>
    have hsC : s ≤ C := by rw [← hs]; exact Nat.and_le_right
    have : s = C := by omega
    subst this
    rw [subsFrom_end, subsFrom_end]
  | succ f ih =>
    by_cases hne : s = C
    · subst hne; rw [subsFrom_end, subsFrom_end]
    · obtain ⟨h1, h2⟩ := nxt_facts hC hs hne
      rw [show f + 1 + k = (f + k) + 1 by omega]
      unfold subsFrom
      rw [if_neg hne, if_neg hne, ih h2 (by omega)]
/-- What is still to come from a subset on. -/
def subsOf (C s : Nat) : List Nat := subsFrom C 1024 s
theorem subsOf_end (C : Nat) : subsOf C C = [C] := subsFrom_end _ _
theorem subsOf_next {C s : Nat} (hC : C < 1024) (hs : s &&& C = s) (hne : s ≠ C) : subsOf C s = s :: subsOf C (nxt C s) := by
  obtain ⟨h1, h2⟩ := nxt_facts hC hs hne
  have h3 := subsFrom_more hC h2 1023 (by omega) 1
  show subsFrom C (1023 + 1) s = s :: subsFrom C (1023 + 1) (nxt C s)
  rw [h3]
  show (if s = C then [s] else s :: subsFrom C 1023 (nxt C s)) = _
  rw [if_neg hne]
theorem subsL_eq (C : Nat) : subsL C = subsOf C 0 := rfl
theorem nxt_op {C s : Nat} (hC : C < 1024) (hs : s ≤ C) : bits .and .i64 ((s : Int) - (C : Int)) (C : Int) = ((nxt C s : Nat) : Int) := by
  have hz : (BitVec.ofInt 64 ((s : Int) - (C : Int))).toNat = (s + 18446744073709551616 - C) % 18446744073709551616 := by
    rw [BitVec.toNat_ofInt]; omega
  refine unword (BitVec.ofInt 64 ((s : Int) - (C : Int)) &&& BitVec.ofInt 64 (C : Int)) _ ?_ ?_
  · rw [BitVec.toNat_and, word C (by omega), hz]
    unfold nxt
    refine Nat.eq_of_testBit_eq fun i => ?_
    rw [Nat.testBit_and, Nat.testBit_and]
    by_cases hi : i < 10
    · have e1 : ((s + 18446744073709551616 - C) % 18446744073709551616).testBit i = ((s + 1024 - C) % 1024).testBit i := by
        have h1 := Nat.testBit_mod_two_pow ((s + 18446744073709551616 - C) % 18446744073709551616) 10 i
        rw [show decide (i < 10) = true by simp; omega, Bool.true_and] at h1
        rw [← h1]
        congr 1
        show (s + 18446744073709551616 - C) % 18446744073709551616 % 1024 = (s + 1024 - C) % 1024
        omega
      rw [e1]
    · have : C.testBit i = false := Nat.testBit_lt_two_pow (Nat.lt_of_lt_of_le hC (by rw [show (1024 : Nat) = 2 ^ 10 by rfl]; exact Nat.pow_le_pow_right (by omega) (by omega)))
      rw [this, Bool.and_false, Bool.and_false]
  · unfold nxt
    exact Nat.lt_of_le_of_lt Nat.and_le_right (by omega)
end Go.Proofs.YtdhpamemkkfhhaaDoor
