/- Bits of sets; words turned by words. Plain mathematics, no condition. -/
import Derived.Test.YtamabhdbcmjbjaaDoorBaseG
import Derived.Test.YtamabhdbcmjbjaaDoorBaseA
namespace Go.Proofs.YtamabhdbcmjbjaaDoor
open Go Go.RowKit
set_option linter.unusedVariables false
set_option maxRecDepth 100000

theorem less_tb {a b : Nat} (ha : a < 64) (hb : b ≤ 64) (j : Nat) : (less a b).testBit j = (a.testBit j && !b.testBit j) := by
  unfold less
  have e : 18446744073709551615 - b = 2 ^ 64 - (b + 1) := by
    have h64 : (2 : Nat) ^ 64 = 18446744073709551616 := by decide
    omega
  rw [Nat.testBit_and, e, Nat.testBit_two_pow_sub_succ (Nat.lt_of_le_of_lt hb (by decide))]
  by_cases h : j < 64
  · simp [h]
  · have h1 : a.testBit j = false := Nat.testBit_lt_two_pow (Nat.lt_of_lt_of_le ha (Nat.le_trans (show 64 ≤ 2 ^ 64 by decide) (Nat.pow_le_pow_right (by omega) (by omega))))
    simp [h1]
theorem bt_bit (L : List Int) (i j : Nat) : bt L i j = 1 ↔ (ent L i).testBit j = true := by
  unfold bt
  rw [Nat.testBit_eq_decide_div_mod_eq, decide_eq_true_eq]
theorem less_bits {a b : Nat} (ha : a < 1048576) (hb : b < 1048576) (j : Nat) : (less a b).testBit j = (a.testBit j && !b.testBit j) := by
  unfold less
  have e : 18446744073709551615 - b = 2 ^ 64 - (b + 1) := by
    have h64 : (2 : Nat) ^ 64 = 18446744073709551616 := by decide
    omega
  rw [Nat.testBit_and, e, Nat.testBit_two_pow_sub_succ (Nat.lt_trans hb (by decide))]
  by_cases h : j < 64
  · simp [h]
  · have h1 : a.testBit j = false := Nat.testBit_lt_two_pow (Nat.lt_of_lt_of_le ha (Nat.le_trans (show 1048576 ≤ 2 ^ 64 by decide) (Nat.pow_le_pow_right (by omega) (by omega))))
    simp [h1]
theorem mod_bit (x k : Nat) : x / 2 ^ k % 2 = 1 ↔ x.testBit k = true := by rw [Nat.testBit_eq_decide_div_mod_eq, decide_eq_true_eq]
theorem bt_tb (L : List Int) (i j : Nat) : bt L i j = 1 ↔ (ent L i).testBit j = true := by unfold bt; exact mod_bit _ _
theorem i64_xor_nat (a b : Nat) (ha : a < 9223372036854775808) (hb : b < 9223372036854775808) : bits .xor .i64 (a : Int) (b : Int) = ((a ^^^ b : Nat) : Int) :=
  unword (BitVec.ofInt 64 (a : Int) ^^^ BitVec.ofInt 64 (b : Int)) _ (by rw [BitVec.toNat_xor, word a ha, word b hb]) (Nat.xor_lt_two_pow ha hb)
theorem xor_pow (x k : Nat) (h : k ≤ 40) (hx : x < 9223372036854775808) : bits .xor .i64 (x : Int) (wrap64 ((2 : Int) ^ k)) = ((x ^^^ 2 ^ k : Nat) : Int) := by
  have h1 := pow_le k 40 h
  rw [wrap_pow k h, i64_xor_nat x _ hx (by omega)]
end Go.Proofs.YtamabhdbcmjbjaaDoor
