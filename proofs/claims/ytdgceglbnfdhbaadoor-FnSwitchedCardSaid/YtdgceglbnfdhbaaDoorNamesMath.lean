/- Names of nodes: each of n numbers once. Plain mathematics, no condition. -/
import Derived.Test.YtdgceglbnfdhbaaDoorNamedMath
namespace Go.Proofs.YtdgceglbnfdhbaaDoor
open Go Go.RowKit

theorem nodup_len {P Q : List Nat} (h : P.Nodup) (hs : ∀ x ∈ P, x ∈ Q) : P.length ≤ Q.length := by
  induction P generalizing Q with
  | nil => simp
  | cons x P ih =>
    obtain ⟨hx, hP⟩ := List.nodup_cons.1 h
    have hq := hs x (by simp)
    have h1 := ih hP (Q := Q.erase x) (fun y hy => (List.mem_erase_of_ne (fun (e : y = x) => hx (e ▸ hy))).2 (hs y (by simp [hy])))
    have h2 := List.length_erase_of_mem hq
    have h3 : 0 < Q.length := List.length_pos_of_mem hq
    rw [List.length_cons]
    omega

theorem dup_of_not {P : List Nat} (h : ¬ P.Nodup) : ∃ x, x ∈ P ∧ ∀ y ∈ P, y ∈ P.erase x := by
  induction P with
  | nil => simp at h
  | cons x P ih =>
    by_cases hx : x ∈ P
    · refine ⟨x, by simp, fun y hy => ?_⟩
      rw [List.erase_cons_head]
      rcases List.mem_cons.1 hy with rfl | h'
      · exact hx
      · exact h'
    · have hP : ¬ P.Nodup := fun hn => h (List.nodup_cons.2 ⟨hx, hn⟩)
      obtain ⟨z, hz, hall⟩ := ih hP
      have hxz : x ≠ z := fun e => hx (e ▸ hz)
      refine ⟨z, by simp [hz], fun y hy => ?_⟩
      rw [List.erase_cons_tail (by simpa using hxz)]
      rcases List.mem_cons.1 hy with rfl | h'
      · simp
      · simp [hall y h']

/-- The set of the numbers that have come. -/
def seenOf (P : List Nat) : Nat := P.foldl (fun s x => s ||| 2 ^ x) 0
theorem seenOf_snoc (P : List Nat) (x : Nat) : seenOf (P ++ [x]) = seenOf P ||| 2 ^ x := by simp [seenOf]
theorem seenOf_bit (P : List Nat) (j : Nat) : (seenOf P).testBit j = true ↔ j ∈ P := by
  induction P using snoc_ind with
  | h0 => simp [seenOf]
  | h1 l x ih => rw [seenOf_snoc, Nat.testBit_or, Nat.testBit_two_pow, Bool.or_eq_true, ih, decide_eq_true_eq, List.mem_append, List.mem_singleton]; exact or_congr Iff.rfl ⟨Eq.symm, Eq.symm⟩
theorem seenOf_lt (P : List Nat) (n : Nat) (h : ∀ x ∈ P, x < n) : seenOf P < 2 ^ n := by
  induction P using snoc_ind with
  | h0 => exact Nat.two_pow_pos n
  | h1 l x ih =>
    rw [seenOf_snoc]
    exact Nat.or_lt_two_pow (ih fun y hy => h y (by simp [hy])) (Nat.pow_lt_pow_right (by omega) (h x (by simp)))
theorem seenOf_full (P : List Nat) (n : Nat) (h : ∀ x ∈ P, x < n) : seenOf P = 2 ^ n - 1 ↔ ∀ j, j < n → j ∈ P := by
  constructor
  · intro e j hj
    rw [← seenOf_bit, e, Nat.testBit_two_pow_sub_one]
    simpa using hj
  · intro hall
    refine Nat.eq_of_testBit_eq fun j => ?_
    rw [Nat.testBit_two_pow_sub_one]
    by_cases hj : j < n
    · rw [(seenOf_bit P j).2 (hall j hj)]; simp [hj]
    · have : j ∉ P := fun hm => hj (h j hm)
      have h0 : (seenOf P).testBit j = false := by
        cases e : (seenOf P).testBit j
        · rfl
        · exact absurd ((seenOf_bit P j).1 e) this
      rw [h0]; simp [hj]
/-- n numbers below n: all have come just if none has come twice. -/
theorem names_iff (P : List Nat) (n : Nat) (hl : P.length = n) (h : ∀ x ∈ P, x < n) : seenOf P = 2 ^ n - 1 ↔ P.Nodup := by
  rw [seenOf_full P n h]
  constructor
  · intro hall
    refine Classical.byContradiction fun hn => ?_
    obtain ⟨x, hx, hk⟩ := dup_of_not hn
    have h1 := nodup_len (List.nodup_range (n := n)) (Q := P.erase x) (fun y hy => hk y (hall y (by simpa using hy)))
    have h2 := List.length_erase_of_mem hx
    have h3 : 0 < P.length := List.length_pos_of_mem hx
    rw [List.length_range] at h1
    omega
  · intro hn j hj
    refine Classical.byContradiction fun hm => ?_
    have h1 := nodup_len (List.nodup_cons.2 ⟨hm, hn⟩) (Q := List.range n) (fun y hy => by
      rcases List.mem_cons.1 hy with rfl | h'
      · simpa using hj
      · simpa using h y h')
    rw [List.length_cons, List.length_range] at h1
    omega
end Go.Proofs.YtdgceglbnfdhbaaDoor
