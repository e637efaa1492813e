/- Twins: nodes with the same neighbours, each other not counted; their blocks. Plain mathematics, no condition. -/
import Derived.Test.YtdgceglbnfdhbaaDoorOrbMath
import Derived.Test.YtdgceglbnfdhbaaDoorBits
import Derived.Test.YtdgceglbnfdhbaaDoorAlikeMath
namespace Go.Proofs.YtdgceglbnfdhbaaDoor
open Go Go.RowKit
set_option linter.unusedVariables false
set_option maxRecDepth 100000

def twB (L : List Int) (v w : Nat) : Bool := less (ent L v) (2 ^ v ||| 2 ^ w) == less (ent L w) (2 ^ v ||| 2 ^ w)
def twinTo (L : List Int) (v k : Nat) : Nat := (List.range k).foldl (fun s w => if twB L v w = true then s ||| 2 ^ w else s) 0
theorem twinTo_zero (L : List Int) (v : Nat) : twinTo L v 0 = 0 := rfl
theorem twinTo_succ (L : List Int) (v k : Nat) : twinTo L v (k + 1) = if twB L v k = true then twinTo L v k ||| 2 ^ k else twinTo L v k := by simp [twinTo, List.range_succ]
theorem twinTo_lt (L : List Int) (v n : Nat) : ∀ k, k ≤ n → twinTo L v k < 2 ^ n
  | 0, _ => two_pos n
  | k + 1, h => by
    rw [twinTo_succ]
    split
    · exact Nat.or_lt_two_pow (twinTo_lt L v n k (by omega)) (Nat.pow_lt_pow_right (by omega) (by omega))
    · exact twinTo_lt L v n k (by omega)
theorem twinTo_bit (L : List Int) (v : Nat) (j : Nat) : ∀ k, (twinTo L v k).testBit j = true ↔ (j < k ∧ twB L v j = true)
  | 0 => by rw [twinTo_zero]; simp
  | k + 1 => by
    have ih := twinTo_bit L v j k
    rw [twinTo_succ]
    split
    · rename_i h
      rw [Nat.testBit_or, Bool.or_eq_true, ih, Nat.testBit_two_pow, decide_eq_true_eq]
      constructor
      · rintro (⟨h1, h2⟩ | h1)
        · exact ⟨by omega, h2⟩
        · subst h1; exact ⟨by omega, h⟩
      · rintro ⟨h1, h2⟩
        by_cases hj : j < k
        · exact .inl ⟨hj, h2⟩
        · exact .inr (by omega)
    · rename_i h
      rw [ih]
      constructor
      · rintro ⟨h1, h2⟩; exact ⟨by omega, h2⟩
      · rintro ⟨h1, h2⟩
        refine ⟨?_, h2⟩
        by_cases hj : j = k
        · subst hj; exact absurd h2 h
        · omega
def twinL (L : List Int) (v : Nat) : Nat := twinTo L v L.length
theorem ent_small {L : List Int} (hL : IsGraph L) (v : Nat) : ent L v < 64 := by
  by_cases h : v < L.length
  · have h1 := ent_lt (hL.2.2 v h).1
    have h2 := two_le hL.2.1
    omega
  · unfold ent
    rw [List.getElem?_eq_none (by omega)]
    decide
theorem pair_small {v w : Nat} (hv : v < 6) (hw : w < 6) : 2 ^ v ||| 2 ^ w < 64 :=
  Nat.or_lt_two_pow (n := 6) (Nat.pow_lt_pow_right (by omega) hv) (Nat.pow_lt_pow_right (by omega) hw)
theorem twB_iff {L : List Int} (hL : IsGraph L) {v w : Nat} (hv : v < L.length) (hw : w < L.length) : twB L v w = true ↔ ∀ x, x ≠ v → x ≠ w → bt L v x = bt L w x := by
  have h6 := hL.2.1
  have hp : 2 ^ v ||| 2 ^ w < 1048576 := Nat.lt_trans (pair_small (by omega) (by omega)) (by decide)
  have e1 : ent L v < 1048576 := Nat.lt_trans (ent_small hL v) (by decide)
  have e2 : ent L w < 1048576 := Nat.lt_trans (ent_small hL w) (by decide)
  unfold twB
  rw [beq_iff_eq]
  constructor
  · intro h x h1 h2
    have h3 := congrArg (fun s => s.testBit x) h
    rw [less_bits e1 hp, less_bits e2 hp, Nat.testBit_or, Nat.testBit_two_pow, Nat.testBit_two_pow] at h3
    have n1 : ¬ v = x := fun q => h1 q.symm
    have n2 : ¬ w = x := fun q => h2 q.symm
    simp only [n1, n2, decide_false, Bool.or_self, Bool.not_false, Bool.and_true] at h3
    refine bt_eq ?_
    rw [bt_tb, bt_tb, h3]
  · intro h
    refine Nat.eq_of_testBit_eq fun x => ?_
    rw [less_bits e1 hp, less_bits e2 hp, Nat.testBit_or, Nat.testBit_two_pow, Nat.testBit_two_pow]
    by_cases h1 : v = x
    · simp [h1]
    · by_cases h2 : w = x
      · simp [h2]
      · have h3 := h x (fun q => h1 q.symm) (fun q => h2 q.symm)
        have h4 : (ent L v).testBit x = (ent L w).testBit x := by
          rw [Bool.eq_iff_iff, ← bt_tb, ← bt_tb, h3]
        rw [h4]
theorem twB_refl {L : List Int} (hL : IsGraph L) {v : Nat} (hv : v < L.length) : twB L v v = true := (twB_iff hL hv hv).2 fun _ _ _ => rfl
theorem twB_symm {L : List Int} (hL : IsGraph L) {v w : Nat} (hv : v < L.length) (hw : w < L.length) (h : twB L v w = true) : twB L w v = true :=
  (twB_iff hL hw hv).2 fun x h1 h2 => ((twB_iff hL hv hw).1 h x h2 h1).symm
theorem twB_trans {L : List Int} (hL : IsGraph L) {u v w : Nat} (hu : u < L.length) (hv : v < L.length) (hw : w < L.length) (h : twB L u v = true) (k : twB L v w = true) : twB L u w = true := by
  by_cases huv : u = v
  · rw [huv]; exact k
  by_cases hvw : v = w
  · rw [← hvw]; exact h
  by_cases huw : u = w
  · rw [huw]; exact twB_refl hL hw
  have a := (twB_iff hL hu hv).1 h
  have b := (twB_iff hL hv hw).1 k
  refine (twB_iff hL hu hw).2 fun x h1 h2 => ?_
  by_cases hx : x = v
  · subst hx
    rw [bt_sym hL hu hv, b u (fun q => huv q) (fun q => huw q), bt_sym hL hw hu, a w (fun q => huw q.symm) (fun q => hvw q.symm), bt_sym hL hv hw]
  · rw [a x h1 hx, b x hx h2]
theorem twin_bit {L : List Int} (v j : Nat) : (twinL L v).testBit j = true ↔ (j < L.length ∧ twB L v j = true) := twinTo_bit L v j L.length
theorem twin_lt (L : List Int) (v : Nat) : twinL L v < 2 ^ L.length := twinTo_lt L v L.length L.length (Nat.le_refl _)
/-- The model's blocks: those of nodes that are the least of their twins. -/
def twinOut (L : List Int) (k : Nat) : List Nat := ((List.range k).filter fun v => twinL L v % 2 ^ v == 0).map (twinL L)
theorem twinOut_zero (L : List Int) : twinOut L 0 = [] := rfl
theorem twinOut_succ (L : List Int) (k : Nat) : twinOut L (k + 1) = if twinL L k % 2 ^ k = 0 then twinOut L k ++ [twinL L k] else twinOut L k := by
  unfold twinOut
  rw [List.range_succ, List.filter_append, List.map_append]
  by_cases h : twinL L k % 2 ^ k = 0 <;> simp [h]
theorem twinOut_length (L : List Int) (k : Nat) : (twinOut L k).length ≤ k := by
  unfold twinOut
  rw [List.length_map]
  have := List.length_filter_le (fun v => twinL L v % 2 ^ v == 0) (List.range k)
  rw [List.length_range] at this
  exact this
theorem low_zero (x v : Nat) : x % 2 ^ v = 0 ↔ ∀ u, u < v → x.testBit u = false := by
  constructor
  · intro h u hu
    have h1 := Nat.testBit_mod_two_pow x v u
    rw [h, Nat.zero_testBit] at h1
    simpa [hu] using h1.symm
  · intro h
    refine Nat.eq_of_testBit_eq fun u => ?_
    rw [Nat.testBit_mod_two_pow, Nat.zero_testBit]
    by_cases hu : u < v
    · simp [h u hu]
    · simp [hu]
/-- **The program's blocks are the model's.** -/
theorem twins_eq {L : List Int} (hL : IsGraph L) : ∀ k, k ≤ L.length → (blkTo (twinL L) k).1 = twinOut L k ∧ ∀ j, (blkTo (twinL L) k).2.testBit j = true ↔ (j < L.length ∧ ∃ u, u < k ∧ twB L u j = true)
  | 0, _ => ⟨rfl, fun j => ⟨fun h => by simp [blkTo] at h, fun ⟨_, u, hu, _⟩ => by omega⟩⟩
  | k + 1, hk => by
    obtain ⟨ih1, ih2⟩ := twins_eq hL k (by omega)
    have hkn : k < L.length := by omega
    have key : (blkTo (twinL L) k).2 / 2 ^ k % 2 = 1 ↔ ¬ twinL L k % 2 ^ k = 0 := by
      rw [mod_bit, ih2 k, low_zero]
      constructor
      · rintro ⟨_, u, hu, ht⟩ h
        have h1 := h u hu
        have h2 := (twin_bit (L := L) k u).2 ⟨by omega, twB_symm hL (by omega) hkn ht⟩
        rw [h1] at h2
        cases h2
      · intro h
        have hex : ∃ u, u < k ∧ (twinL L k).testBit u = true := by
          refine Classical.byContradiction fun hc => h fun u hu => ?_
          cases e : (twinL L k).testBit u with
          | false => rfl
          | true => exact absurd ⟨u, hu, e⟩ hc
        obtain ⟨u, hu, e⟩ := hex
        have h2 := (twin_bit (L := L) k u).1 e
        exact ⟨hkn, u, hu, twB_symm hL hkn h2.1 h2.2⟩
    rw [twinOut_succ]
    by_cases hb : (blkTo (twinL L) k).2 / 2 ^ k % 2 = 1
    · rw [blkTo_yes hb, if_neg (key.1 hb)]
      refine ⟨ih1, fun j => ?_⟩
      rw [ih2 j]
      constructor
      · rintro ⟨h1, u, h2, h3⟩; exact ⟨h1, u, by omega, h3⟩
      · rintro ⟨h1, u, h2, h3⟩
        refine ⟨h1, ?_⟩
        by_cases huk : u < k
        · exact ⟨u, huk, h3⟩
        · have e : u = k := by omega
          subst e
          obtain ⟨_, y, hy, ht⟩ := (ih2 u).1 ((mod_bit _ _).1 hb)
          exact ⟨y, hy, twB_trans hL (by omega) hkn h1 ht h3⟩
    · have h0 : twinL L k % 2 ^ k = 0 := Classical.byContradiction fun q => hb (key.2 q)
      rw [blkTo_no hb, if_pos h0]
      refine ⟨by rw [ih1], fun j => ?_⟩
      show ((blkTo (twinL L) k).2 ||| twinL L k).testBit j = true ↔ _
      rw [Nat.testBit_or, Bool.or_eq_true, ih2 j, twin_bit]
      constructor
      · rintro (⟨h1, u, h2, h3⟩ | ⟨h1, h2⟩)
        · exact ⟨h1, u, by omega, h3⟩
        · exact ⟨h1, k, by omega, h2⟩
      · rintro ⟨h1, u, h2, h3⟩
        by_cases huk : u < k
        · exact .inl ⟨h1, u, huk, h3⟩
        · have e : u = k := by omega
          subst e
          exact .inr ⟨h1, h3⟩
def twinsL (L : List Int) : List Nat := twinOut L L.length
end Go.Proofs.YtdgceglbnfdhbaaDoor
