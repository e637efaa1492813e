/- NumberTrees by the model: the sets of edges, one less than nodes, that link all nodes, counted. -/
import Derived.Test.YtkngijkhhonikaaDoorClasses
import Derived.Test.YtkngijkhhonikaaDoorOneSaid
import Derived.Test.YtkngijkhhonikaaDoorBaseA
import Derived.Test.YtkngijkhhonikaaDoorBaseW
import Derived.Test.YtkngijkhhonikaaDoorBaseG
import Derived.Test.YtkngijkhhonikaaDoorSpecOf
namespace Go.Proofs.YtkngijkhhonikaaDoor
open Go Go.RowKit
set_option linter.unusedVariables false
set_option maxRecDepth 100000

/-! ### the sets in a set, from the greatest down -/
theorem and_two (x c : Nat) : x &&& c = 2 * (x / 2 &&& c / 2) + (x % 2) * (c % 2) := by
  have h1 : (x &&& c) / 2 = x / 2 &&& c / 2 := Nat.and_div_two
  have h2 : (x &&& c) % 2 = (x % 2) * (c % 2) := by
    have h := Nat.and_mod_two_pow (a := x) (b := c) (n := 1)
    rw [show (2 : Nat) ^ 1 = 2 from rfl] at h
    rw [h]
    rcases Nat.mod_two_eq_zero_or_one x with e | e <;> rcases Nat.mod_two_eq_zero_or_one c with f | f <;> rw [e, f] <;> rfl
  omega
theorem sub_two {x c : Nat} : x &&& c = x ↔ (x / 2 &&& c / 2 = x / 2 ∧ x % 2 ≤ c % 2) := by
  have h := and_two x c
  have hx := Nat.div_add_mod x 2
  constructor
  · intro e
    rw [e] at h
    rcases Nat.mod_two_eq_zero_or_one x with a | a <;> rcases Nat.mod_two_eq_zero_or_one c with b | b <;> rw [a, b] at h <;> constructor <;> omega
  · rintro ⟨e, f⟩
    rw [e] at h
    rcases Nat.mod_two_eq_zero_or_one x with a | a <;> rcases Nat.mod_two_eq_zero_or_one c with b | b <;> rw [a, b] at h <;> omega
/-- The next set below. -/
theorem sub_next : ∀ (x c s : Nat), x &&& c = x → s &&& c = s → s < x → s ≤ (x - 1) &&& c := by
  intro x
  induction x using Nat.strongRecOn with
  | ind x ih =>
    intro c s hx hs hlt
    have h1 := sub_two.1 hx
    have h2 := sub_two.1 hs
    have ha := and_two (x - 1) c
    rcases Nat.mod_two_eq_zero_or_one x with e | e
    · have h3 := ih (x / 2) (by omega) (c / 2) (s / 2) h1.1 h2.1 (by omega)
      rw [show (x - 1) / 2 = x / 2 - 1 by omega, show (x - 1) % 2 = 1 by omega, Nat.one_mul] at ha
      omega
    · rw [show (x - 1) / 2 = x / 2 by omega, show (x - 1) % 2 = 0 by omega, Nat.zero_mul, h1.1] at ha
      omega
/-- How many of the sets in c, from 0 up to N, are greater than x and fine. -/
def trS (t : Nat → Bool) (c x N : Nat) : Nat := sumN (fun s => if s &&& c = s ∧ x < s ∧ t s = true then 1 else 0) N
def trA (t : Nat → Bool) (c N : Nat) : Nat := sumN (fun s => if s &&& c = s ∧ t s = true then 1 else 0) N
theorem sumN_none {f : Nat → Nat} {n : Nat} (h : ∀ i, i < n → f i = 0) : sumN f n = 0 := by
  induction n with
  | zero => rfl
  | succ n ih => rw [sumN, ih (fun i hi => h i (by omega)), h n (by omega)]
theorem sumN_delta (x a : Nat) : ∀ n, x < n → sumN (fun s => if s = x then a else 0) n = a
  | 0, h => by omega
  | n + 1, h => by
    rw [sumN]
    rcases Nat.lt_or_ge x n with h1 | h1
    · rw [sumN_delta x a n h1, if_neg (by omega)]; rfl
    · have e : n = x := by omega
      rw [if_pos e, sumN_none fun i hi => if_neg (by omega), Nat.zero_add]
theorem sumN_both (f g : Nat → Nat) (n : Nat) : sumN (fun i => f i + g i) n = sumN f n + sumN g n := by
  induction n with
  | zero => rfl
  | succ n ih => rw [sumN, sumN, sumN, ih]; omega
theorem sub_le {s c : Nat} (h : s &&& c = s) : s ≤ c := by rw [← h]; exact Nat.and_le_right
theorem trS_start (t : Nat → Bool) (c N : Nat) : trS t c c N = 0 := sumN_none fun s _ => if_neg (fun h => by have := sub_le h.1; omega)
theorem trS_next (t : Nat → Bool) {c x N : Nat} (hx : x &&& c = x) (h0 : 0 < x) (hN : x < N) : trS t c ((x - 1) &&& c) N = trS t c x N + if t x = true then 1 else 0 := by
  unfold trS
  rw [← sumN_delta x (if t x = true then 1 else 0) N hN, ← sumN_both]
  refine sumN_congr fun s _ => ?_
  have hle : (x - 1) &&& c ≤ x - 1 := Nat.and_le_left
  by_cases e : s = x
  · subst e
    rw [if_pos rfl, if_neg (c := s &&& c = s ∧ s < s ∧ t s = true) (fun h => by omega), Nat.zero_add]
    by_cases ht : t s = true
    · rw [if_pos ⟨hx, by omega, ht⟩, if_pos ht]
    · rw [if_neg (fun h => ht h.2.2), if_neg ht]
  · rw [if_neg e, Nat.add_zero]
    by_cases h : s &&& c = s ∧ x < s ∧ t s = true
    · rw [if_pos h, if_pos ⟨h.1, by omega, h.2.2⟩]
    · rw [if_neg h, if_neg]
      rintro ⟨h1, h2, h3⟩
      refine h ⟨h1, ?_, h3⟩
      rcases Nat.lt_or_ge x s with h4 | h4
      · exact h4
      · have := sub_next x c s hx h1 (by omega)
        omega
theorem trS_end (t : Nat → Bool) (c N : Nat) (hN : 0 < N) : trA t c N = trS t c 0 N + if t 0 = true then 1 else 0 := by
  unfold trA trS
  rw [← sumN_delta 0 (if t 0 = true then 1 else 0) N hN, ← sumN_both]
  refine sumN_congr fun s _ => ?_
  by_cases e : s = 0
  · subst e
    rw [if_pos rfl, if_neg (c := 0 &&& c = 0 ∧ 0 < 0 ∧ t 0 = true) (fun h => by omega), Nat.zero_add]
    have hz : 0 &&& c = 0 := Nat.zero_and c
    by_cases ht : t 0 = true
    · rw [if_pos ⟨hz, ht⟩, if_pos ht]
    · rw [if_neg (fun h => ht h.2), if_neg ht]
  · rw [if_neg e, Nat.add_zero]
    by_cases h : s &&& c = s ∧ t s = true
    · rw [if_pos h, if_pos ⟨h.1, by omega, h.2⟩]
    · rw [if_neg h, if_neg (fun h2 => h ⟨h2.1, h2.2.2⟩)]
theorem trS_le (t : Nat → Bool) (c x N : Nat) : trS t c x N ≤ N := by
  have h : trS t c x N ≤ N * 1 := sumN_le fun s _ => by split <;> omega
  omega

/-- A set of edges that is a tree. -/
def treeB (n s : Nat) : Bool := pcf 15 s == n - 1 && turns (codeG n s) n == 2 ^ n - 1
def treesN (L : List Int) : Nat := trA (treeB L.length) (codeOf L) 32768
theorem linked_codeG {n s : Nat} (h1 : 1 ≤ n) (h6 : n ≤ 6) : (turns (codeG n s) n == 2 ^ n - 1) = true ↔ IsLinked (codeG n s) := by
  have hl := codeG_length n s
  unfold IsLinked
  rw [hl, beq_iff_eq]
  exact ⟨fun h => ⟨codeG_graph s h1 h6, h⟩, fun h => h.2⟩
end Go.Proofs.YtkngijkhhonikaaDoor
