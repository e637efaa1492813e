/- The subsets of a set of at most 15 members, one behind the other. Plain mathematics. -/
import Derived.Test.YtcblcifnpgmibaaDoorBaseA
namespace Go.Proofs.YtcblcifnpgmibaaDoor
open Go Go.RowKit
set_option linter.unusedVariables false
set_option maxRecDepth 100000

theorem and_bits (a b : Nat) : a &&& b = 2 * (a / 2 &&& b / 2) + a % 2 * (b % 2) := by
  have h1 : (a &&& b) / 2 = a / 2 &&& b / 2 := Nat.and_div_two
  have h2 : (a &&& b) % 2 = a % 2 * (b % 2) := by
    rcases Nat.mod_two_eq_zero_or_one a with ha | ha <;> rcases Nat.mod_two_eq_zero_or_one b with hb | hb
    · have := Nat.and_mod_two_eq_one (a := a) (b := b); rw [ha, hb]; omega
    · have := Nat.and_mod_two_eq_one (a := a) (b := b); rw [ha, hb]; omega
    · have := Nat.and_mod_two_eq_one (a := a) (b := b); rw [ha, hb]; omega
    · have := Nat.and_mod_two_eq_one (a := a) (b := b); rw [ha, hb]; omega
  omega
theorem sub_half {C s : Nat} (h : s &&& C = s) : s / 2 &&& C / 2 = s / 2 ∧ s % 2 * (C % 2) = s % 2 := by
  have h1 := and_bits s C
  rw [h] at h1
  rcases Nat.mod_two_eq_zero_or_one s with hs | hs <;> rcases Nat.mod_two_eq_zero_or_one C with hc | hc <;> rw [hs, hc] at h1 ⊢ <;> constructor <;> omega
theorem sub_fill (k : Nat) : ∀ C s : Nat, C < 2 ^ k → s &&& C = s → (s + (2 ^ k - 1 - C)) &&& C = s := by
  induction k with
  | zero =>
    intro C s hC hs
    have : C = 0 := by simpa using hC
    subst this
    simp at hs ⊢
    omega
  | succ k ih =>
    intro C s hC hs
    obtain ⟨h1, h2⟩ := sub_half hs
    rw [Nat.pow_succ] at hC ⊢
    have h3 := ih (C / 2) (s / 2) (by omega) h1
    have hp : 1 ≤ 2 ^ k := Nat.one_le_two_pow
    obtain ⟨p, ep⟩ : ∃ p, p = 2 ^ k := ⟨_, rfl⟩
    rw [← ep] at hC hp h3 ⊢
    rw [and_bits]
    rcases Nat.mod_two_eq_zero_or_one s with hs2 | hs2 <;> rcases Nat.mod_two_eq_zero_or_one C with hc2 | hc2 <;> rw [hs2, hc2] at h2
    · have e : (s + (p * 2 - 1 - C)) / 2 = s / 2 + (p - 1 - C / 2) := by omega
      rw [e, h3, hc2]; omega
    · have e : (s + (p * 2 - 1 - C)) / 2 = s / 2 + (p - 1 - C / 2) := by omega
      have e2 : (s + (p * 2 - 1 - C)) % 2 = 0 := by omega
      rw [e, h3, hc2, e2]; omega
    · omega
    · have e : (s + (p * 2 - 1 - C)) / 2 = s / 2 + (p - 1 - C / 2) := by omega
      have e2 : (s + (p * 2 - 1 - C)) % 2 = 1 := by omega
      rw [e, h3, hc2, e2]; omega
theorem sub_le {C s : Nat} (h : s &&& C = s) : s ≤ C := by rw [← h]; exact Nat.and_le_right
theorem sub_next (k : Nat) : ∀ C s : Nat, C < 2 ^ k → s &&& C = s → s ≠ C → s < (s + 2 ^ k - C) &&& C := by
  induction k with
  | zero =>
    intro C s hC hs hne
    have : C = 0 := by simpa using hC
    subst this
    simp at hs
    exact absurd hs.symm hne
  | succ k ih =>
    intro C s hC hs hne
    obtain ⟨h1, h2⟩ := sub_half hs
    have hle := sub_le hs
    have hle2 := sub_le h1
    rw [Nat.pow_succ] at hC ⊢
    have hf := sub_fill k (C / 2) (s / 2) (by omega) h1
    have hi := ih (C / 2) (s / 2) (by omega) h1
    have hp : 1 ≤ 2 ^ k := Nat.one_le_two_pow
    obtain ⟨p, ep⟩ : ∃ p, p = 2 ^ k := ⟨_, rfl⟩
    rw [← ep] at hC hp hf hi ⊢
    rw [and_bits]
    rcases Nat.mod_two_eq_zero_or_one s with hs2 | hs2 <;> rcases Nat.mod_two_eq_zero_or_one C with hc2 | hc2 <;> rw [hs2, hc2] at h2
    · have e : (s + p * 2 - C) / 2 = s / 2 + p - C / 2 := by omega
      have := hi (by omega)
      rw [e]; omega
    · have e : (s + p * 2 - C) / 2 = s / 2 + (p - 1 - C / 2) := by omega
      have e2 : (s + p * 2 - C) % 2 = 1 := by omega
      rw [e, hf, hc2, e2]; omega
    · omega
    · have e : (s + p * 2 - C) / 2 = s / 2 + p - C / 2 := by omega
      have := hi (by omega)
      rw [e]; omega

/-- The next subset. -/
def nx (C s : Nat) : Nat := ((s + 32768 - C) % 32768) &&& C
theorem nx_facts {C s : Nat} (hC : C < 32768) (hs : s &&& C = s) (hne : s ≠ C) : s < nx C s ∧ nx C s &&& C = nx C s := by
  have hle := sub_le hs
  refine ⟨?_, ?_⟩
  · unfold nx
    rw [Nat.mod_eq_of_lt (by omega)]
    exact sub_next 15 C s hC hs hne
  · unfold nx
    rw [Nat.and_assoc, Nat.and_self]
def sbFrom (C : Nat) : Nat → Nat → List Nat
  | 0, s => [s]
  | f + 1, s => if s = C then [s] else s :: sbFrom C f (nx C s)
/-- All subsets of a set. -/
def sbL (C : Nat) : List Nat := sbFrom C 32768 0
theorem sbFrom_end (C f : Nat) : sbFrom C f C = [C] := by
  cases f with
  | zero => rfl
  | succ f => unfold sbFrom; rw [if_pos rfl]
theorem sbFrom_more {C s : Nat} (hC : C < 32768) (hs : s &&& C = s) (f : Nat) (hf : C - s ≤ f) (k : Nat) : sbFrom C (f + k) s = sbFrom C f s := by
  induction f generalizing s with
  | zero =>
    have hsC := sub_le hs
    have : s = C := by omega
    subst this
    rw [sbFrom_end, sbFrom_end]
  | succ f ih =>
    by_cases hne : s = C
    · subst hne; rw [sbFrom_end, sbFrom_end]
    · obtain ⟨h1, h2⟩ := nx_facts hC hs hne
      rw [show f + 1 + k = (f + k) + 1 by omega]
      unfold sbFrom
      rw [if_neg hne, if_neg hne, ih h2 (by omega)]
/-- What is still to come from a subset on. -/
def sbOf (C s : Nat) : List Nat := sbFrom C 32768 s
theorem sbOf_end (C : Nat) : sbOf C C = [C] := sbFrom_end _ _
theorem sbOf_next {C s : Nat} (hC : C < 32768) (hs : s &&& C = s) (hne : s ≠ C) : sbOf C s = s :: sbOf C (nx C s) := by
  obtain ⟨h1, h2⟩ := nx_facts hC hs hne
  have h3 := sbFrom_more hC h2 32767 (by omega) 1
  show sbFrom C (32767 + 1) s = s :: sbFrom C (32767 + 1) (nx C s)
  rw [h3]
  show (if s = C then [s] else s :: sbFrom C 32767 (nx C s)) = _
  rw [if_neg hne]
theorem sbL_eq (C : Nat) : sbL C = sbOf C 0 := rfl
theorem sbOf_len {C s : Nat} (hC : C < 32768) (hs : s &&& C = s) : (sbOf C s).length ≤ C - s + 1 ∧ 1 ≤ (sbOf C s).length := by
  have h : ∀ f s, s &&& C = s → C - s ≤ f → (sbFrom C f s).length ≤ C - s + 1 ∧ 1 ≤ (sbFrom C f s).length := fun f => by
    induction f with
    | zero => intro s _ _; simp [sbFrom]
    | succ f ih =>
      intro s hs hf
      unfold sbFrom
      split
      · simp
      · rename_i hne
        obtain ⟨h1, h2⟩ := nx_facts hC hs hne
        have hsC := sub_le hs
        have hnC := sub_le h2
        have := ih (nx C s) h2 (by omega)
        rw [List.length_cons]
        omega
  exact h 32768 s hs (by have := sub_le hs; omega)
theorem nx_op {C s : Nat} (hC : C < 32768) (hs : s ≤ C) : bits .and .i64 ((s : Int) - (C : Int)) (C : Int) = ((nx C s : Nat) : Int) := by
  have hz : (BitVec.ofInt 64 ((s : Int) - (C : Int))).toNat = (s + 18446744073709551616 - C) % 18446744073709551616 := by
    rw [BitVec.toNat_ofInt]; omega
  refine unword (BitVec.ofInt 64 ((s : Int) - (C : Int)) &&& BitVec.ofInt 64 (C : Int)) _ ?_ ?_
  · rw [BitVec.toNat_and, word C (by omega), hz]
    unfold nx
    refine Nat.eq_of_testBit_eq fun i => ?_
    rw [Nat.testBit_and, Nat.testBit_and]
    by_cases hi : i < 15
    · have e1 : ((s + 18446744073709551616 - C) % 18446744073709551616).testBit i = ((s + 32768 - C) % 32768).testBit i := by
        have h1 := Nat.testBit_mod_two_pow ((s + 18446744073709551616 - C) % 18446744073709551616) 15 i
        rw [show decide (i < 15) = true by simp; omega, Bool.true_and] at h1
        rw [← h1]
        congr 1
        show (s + 18446744073709551616 - C) % 18446744073709551616 % 32768 = (s + 32768 - C) % 32768
        omega
      rw [e1]
    · have : C.testBit i = false := Nat.testBit_lt_two_pow (Nat.lt_of_lt_of_le hC (by rw [show (32768 : Nat) = 2 ^ 15 by rfl]; exact Nat.pow_le_pow_right (by omega) (by omega)))
      rw [this, Bool.and_false, Bool.and_false]
  · unfold nx
    exact Nat.lt_of_le_of_lt Nat.and_le_right (by omega)
/-- All sets of at most six nodes. -/
theorem sbL_all : ∀ n : Fin 7, sbL (2 ^ n.val - 1) = List.range (2 ^ n.val) := by decide +kernel
/-- Just the subsets come. -/
theorem sb_mem {C : Nat} (hC : C < 32768) {t : Nat} : t ∈ sbL C → t &&& C = t := by
  have h : ∀ f s, s &&& C = s → t ∈ sbFrom C f s → t &&& C = t := fun f => by
    induction f with
    | zero => intro s hs hm; simp [sbFrom] at hm; rw [hm]; exact hs
    | succ f ih =>
      intro s hs hm
      unfold sbFrom at hm
      split at hm
      · simp at hm; rw [hm]; exact hs
      · rename_i hne
        rcases List.mem_cons.1 hm with rfl | hm
        · exact hs
        · exact ih _ (nx_facts hC hs hne).2 hm
  exact h 32768 0 (by simp)
end Go.Proofs.YtcblcifnpgmibaaDoor
