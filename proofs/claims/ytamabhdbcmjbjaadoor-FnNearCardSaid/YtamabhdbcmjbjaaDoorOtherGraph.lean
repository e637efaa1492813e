/- The other graph is a graph. Plain mathematics, no condition. -/
import Derived.Test.YtamabhdbcmjbjaaDoorOtherList
import Derived.Test.YtamabhdbcmjbjaaDoorBits
import Derived.Test.YtamabhdbcmjbjaaDoorBaseG
namespace Go.Proofs.YtamabhdbcmjbjaaDoor
open Go Go.RowKit
set_option linter.unusedVariables false
set_option maxRecDepth 100000

theorem other_ent (L : List Int) {i : Nat} (hi : i < L.length) : (otherL L L.length)[i]?.getD 0 = ((oth L i : Nat) : Int) := by
  unfold otherL
  simp [hi]
theorem oth_le (L : List Int) (k : Nat) : oth L k < 2 ^ L.length := by
  unfold oth
  have h1 := less_le (less (2 ^ L.length - 1) (ent L k)) (2 ^ k)
  have h2 := less_le (2 ^ L.length - 1) (ent L k)
  have := two_pos L.length
  omega
theorem oth_bit {L : List Int} (hL : IsGraph L) {i : Nat} (hi : i < L.length) (j : Nat) : (oth L i).testBit j = (decide (j < L.length) && !(ent L i).testBit j && !decide (i = j)) := by
  have h6 := hL.2.1
  have h64 := two_le h6
  have hp := two_pos L.length
  have he := ent_lt (hL.2.2 i hi).1
  have hi64 := two_le (n := i) (by omega)
  have hl := less_le (2 ^ L.length - 1) (ent L i)
  unfold oth
  rw [less_tb (by omega) hi64, less_tb (by omega) (by omega), Nat.testBit_two_pow_sub_one, Nat.testBit_two_pow]
theorem other_bt {L : List Int} (hL : IsGraph L) {i : Nat} (hi : i < L.length) (j : Nat) : bt (otherL L L.length) i j = 1 ↔ (j < L.length ∧ ¬ bt L i j = 1 ∧ i ≠ j) := by
  rw [bt_bit, bt_bit]
  have e : ent (otherL L L.length) i = oth L i := by
    unfold ent
    rw [other_ent L hi, Int.toNat_natCast]
  rw [e, oth_bit hL hi]
  simp [and_assoc]
theorem other_graph {L : List Int} (hL : IsGraph L) : IsGraph (otherL L L.length) := by
  have hl := otherL_length L L.length
  refine ⟨by rw [hl]; exact hL.1, by rw [hl]; exact hL.2.1, fun v hv => ?_⟩
  rw [hl] at hv
  refine ⟨?_, ?_, fun w hw => ?_⟩
  · unfold InR
    rw [hl, other_ent L hv]
    have := oth_le L v
    omega
  · have h1 := bt_le (otherL L L.length) v v
    refine Nat.le_antisymm (Nat.le_of_not_lt fun h2 => ?_) (Nat.zero_le _)
    have h3 : bt (otherL L L.length) v v = 1 := by omega
    exact ((other_bt hL hv v).1 h3).2.2 rfl
  · refine bt_eq ?_
    rw [other_bt hL hv, other_bt hL (show w < L.length by omega), bt_sym hL hv (show w < L.length by omega)]
    constructor
    · rintro ⟨a, b, c⟩; exact ⟨hv, b, fun e => c e.symm⟩
    · rintro ⟨a, b, c⟩; exact ⟨by omega, b, fun e => c e.symm⟩
end Go.Proofs.YtamabhdbcmjbjaaDoor
