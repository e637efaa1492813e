/- Whether a number is a set of edges of a graph with a code: the words' arithmetic. -/
import Derived.Test.YtamabhdbcmjbjaaDoorRankMath
import Derived.Test.YtamabhdbcmjbjaaDoorBaseG
namespace Go.Proofs.YtamabhdbcmjbjaaDoor
open Go Go.RowKit
set_option linter.unusedVariables false
set_option maxRecDepth 100000

/-- A set of edges: no number below 0, no other pairs. -/
def hasE (z : Int) (b : Nat) : Bool := decide (0 ≤ z) && decide (z.toNat &&& b = z.toNat)
theorem sub_and (a b : Nat) (ha : a < 2 ^ 63) (hb : b < 2 ^ 63) : (a &&& (18446744073709551615 - b) = 0) ↔ a &&& b = a := by
  have hbit : ∀ i, (18446744073709551615 - b).testBit i = (decide (i < 64) && !b.testBit i) := fun i => by
    have := Nat.testBit_two_pow_sub_succ (x := b) (n := 64) (by omega) i
    rw [← this]
    congr 1
    omega
  have hhi : ∀ i, 63 ≤ i → a.testBit i = false := fun i hi => Nat.testBit_lt_two_pow (Nat.lt_of_lt_of_le ha (Nat.pow_le_pow_right (by omega) hi))
  constructor
  · intro h
    refine Nat.eq_of_testBit_eq fun i => ?_
    have h1 : (a &&& (18446744073709551615 - b)).testBit i = false := by rw [h]; simp
    rw [Nat.testBit_and, hbit] at h1
    rw [Nat.testBit_and]
    by_cases hi : i < 63
    · have : decide (i < 64) = true := by simp; omega
      rw [this] at h1
      cases h2 : a.testBit i <;> cases h3 : b.testBit i <;> simp_all
    · rw [hhi i (by omega)]; rfl
  · intro h
    refine Nat.eq_of_testBit_eq fun i => ?_
    rw [Nat.testBit_and, hbit, Nat.zero_testBit]
    have h1 : (a &&& b).testBit i = a.testBit i := by rw [h]
    rw [Nat.testBit_and] at h1
    cases h2 : a.testBit i <;> cases h3 : b.testBit i <;> simp_all
theorem ofInt_neg (z : Int) (h0 : z < 0) (h1 : -9223372036854775808 ≤ z) : (BitVec.ofInt 64 z).toNat = (z + 18446744073709551616).toNat := by
  rw [BitVec.toNat_ofInt]
  omega
theorem andNot_neg (z : Int) (b : Nat) (h0 : z < 0) (h1 : -9223372036854775808 ≤ z) (hb : b < 1048576) : ¬ bits .andNot .i64 z (b : Int) = 0 := by
  intro h
  have e : bits .andNot .i64 z (b : Int) = IntKind.i64.wrap (((BitVec.ofInt 64 z &&& ~~~BitVec.ofInt 64 (b : Int)).toNat : Nat) : Int) := rfl
  rw [e] at h
  have hlt : (BitVec.ofInt 64 z &&& ~~~BitVec.ofInt 64 (b : Int)).toNat < 2 ^ 64 := BitVec.isLt _
  have hbt : (BitVec.ofInt 64 z &&& ~~~BitVec.ofInt 64 (b : Int)).toNat.testBit 63 = true := by
    rw [BitVec.toNat_and, BitVec.toNat_not, word b (by omega), ofInt_neg z h0 h1, Nat.testBit_and]
    have e1 : (z + 18446744073709551616).toNat.testBit 63 = true := by
      rw [Nat.testBit_eq_decide_div_mod_eq, decide_eq_true_eq]
      omega
    have e2 : (2 ^ 64 - 1 - b).testBit 63 = true := by
      rw [Nat.testBit_eq_decide_div_mod_eq, decide_eq_true_eq]
      omega
    rw [e1, e2]; rfl
  obtain ⟨m, hm⟩ : ∃ m, m = (BitVec.ofInt 64 z &&& ~~~BitVec.ofInt 64 (b : Int)).toNat := ⟨_, rfl⟩
  rw [← hm] at h hlt hbt
  rw [IntKind.wrap_i64] at h
  have : m = 0 := by omega
  subst this
  simp at hbt
theorem hasE_op (z : Int) (b : Nat) (h1 : -9223372036854775808 ≤ z) (h2 : z ≤ 9223372036854775807) (hb : b < 1048576) : (bits .andNot .i64 z (b : Int) == 0) = hasE z b := by
  by_cases h0 : 0 ≤ z
  · obtain ⟨a, rfl⟩ : ∃ a : Nat, z = (a : Int) := ⟨z.toNat, by omega⟩
    rw [i64_andNot_nat a b (by omega) (by omega)]
    have hs := sub_and a b (by omega) (by omega)
    unfold hasE
    rw [Int.toNat_natCast, Bool.eq_iff_iff, Bool.and_eq_true, decide_eq_true_eq, decide_eq_true_eq, ← hs]
    simp
  · have hn := andNot_neg z b (by omega) h1 hb
    have : hasE z b = false := by unfold hasE; simp [h0]
    rw [this, Bool.eq_false_iff]
    simpa using hn
theorem hasE_neg {z : Int} {b : Nat} (h : z < 0) : hasE z b = false := by unfold hasE; simp; omega
/-- What a set of edges is. -/
theorem hasE_nat {z : Int} {b : Nat} (h : hasE z b = true) : ∃ s : Nat, z = (s : Int) ∧ s &&& b = s ∧ s ≤ b := by
  unfold hasE at h
  rw [Bool.and_eq_true, decide_eq_true_eq, decide_eq_true_eq] at h
  refine ⟨z.toNat, by omega, h.2, ?_⟩
  have := h.2
  have h3 : z.toNat &&& b ≤ b := Nat.and_le_right
  omega
/-- A graph that has a table. -/
def IsT (L : List Int) : Prop := IsGraph L ∧ L.length ≤ 5
theorem rows_count : ∀ n : Fin 6, 1 ≤ n.val → 2 ^ (rows n.val).length = codesN n.val := by decide
theorem code_ltN {L : List Int} (h : IsT L) : codeOf L < codesN L.length := by
  have h1 := code_lt L
  have h2 := rows_count ⟨L.length, by have := h.2; omega⟩ h.1.1
  dsimp only at h2
  omega
end Go.Proofs.YtamabhdbcmjbjaaDoor
