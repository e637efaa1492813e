/- The least codes of all graphs of some nodes: a list; how those of one node more come out of them. Plain mathematics. -/
import Derived.Test.YtogmfbhnnnoipaaDoorDeckBackMath
namespace Go.Proofs.YtogmfbhnnnoipaaDoor
open Go Go.RowKit
set_option linter.unusedVariables false
set_option maxRecDepth 100000

def tabA : Nat → List Nat
  | 1 => [0]
  | 2 => tabL2
  | 3 => tabL3
  | 4 => tabL4
  | 5 => tabK5
  | _ => []
def firstA : Nat → List Nat
  | 1 => [0]
  | 2 => [0, 1]
  | 3 => [0, 1, 3, 7]
  | 4 => [0, 1, 3, 7, 11, 12, 13, 15, 30, 31, 63]
  | 5 => [0, 1, 3, 7, 11, 12, 13, 15, 30, 31, 63, 75, 76, 77, 79, 86, 87, 94, 95, 116, 117, 119, 127, 222, 223, 235, 236, 237, 239, 254, 255, 507, 511, 1023]
  | _ => []
theorem least1 : leastOk 1 [0] 1 = true := by decide +kernel
theorem rowsN : ∀ n : Fin 6, (rows n.val).length = n.val * (n.val - 1) / 2 := by decide +kernel
theorem tabA_len {n : Nat} (h1 : 1 ≤ n) (h5 : n ≤ 5) : (tabA n).length = 2 ^ (rows n).length := by
  obtain rfl | rfl | rfl | rfl | rfl : n = 1 ∨ n = 2 ∨ n = 3 ∨ n = 4 ∨ n = 5 := by omega
  · decide +kernel
  · decide +kernel
  · decide +kernel
  · decide +kernel
  · rw [rowsN ⟨5, by decide⟩]; exact len5
theorem leastA {n : Nat} (h1 : 1 ≤ n) (h5 : n ≤ 5) {c : Nat} (hc : c < 2 ^ (rows n).length) : leastL (codeG n c) = (tabA n).getD c 0 := by
  obtain rfl | rfl | rfl | rfl | rfl : n = 1 ∨ n = 2 ∨ n = 3 ∨ n = 4 ∨ n = 5 := by omega
  · exact leastOk_get least1 (by decide +kernel) (by decide) (by decide) (by rw [rowsN ⟨1, by decide⟩] at hc; exact hc)
  · exact leastOk_get least2 (by decide +kernel) (by decide) (by decide) (by rw [rowsN ⟨2, by decide⟩] at hc; exact hc)
  · exact leastOk_get least3 (by decide +kernel) (by decide) (by decide) (by rw [rowsN ⟨3, by decide⟩] at hc; exact hc)
  · exact leastOk_get least4 (by decide +kernel) (by decide) (by decide) (by rw [rowsN ⟨4, by decide⟩] at hc; exact hc)
  · exact tabs5.leastL (by rw [rowsN ⟨5, by decide⟩] at hc; exact hc)

/-- The places that hold themselves. -/
def selfAt : Nat → List Nat → List Nat
  | _, [] => []
  | c, x :: l => if Nat.beq x c = true then c :: selfAt (c + 1) l else selfAt (c + 1) l
theorem selfAt_eq : ∀ (l : List Nat) (k : Nat), selfAt k l = (List.range' k l.length).filter fun c => Nat.beq (l.getD (c - k) 0) c
  | [], k => rfl
  | x :: l, k => by
    have ih : (List.range' (k + 1) l.length).filter (fun c => Nat.beq ((x :: l).getD (c - k) 0) c) = selfAt (k + 1) l := by
      rw [selfAt_eq l (k + 1)]
      refine List.filter_congr fun c hc => ?_
      have h := (List.mem_range'_1.1 hc).1
      obtain ⟨d, rfl⟩ : ∃ d, c = k + 1 + d := ⟨c - (k + 1), by omega⟩
      rw [show k + 1 + d - k = d + 1 by omega, show k + 1 + d - (k + 1) = d by omega, List.getD_cons_succ]
    rw [List.length_cons, List.range'_succ, List.filter_cons, ih, selfAt, Nat.sub_self, List.getD_cons_zero]
theorem selfA {n : Nat} (h1 : 1 ≤ n) (h5 : n ≤ 5) : selfAt 0 (tabA n) = firstA n := by
  obtain rfl | rfl | rfl | rfl | rfl : n = 1 ∨ n = 2 ∨ n = 3 ∨ n = 4 ∨ n = 5 := by omega
  all_goals decide +kernel
/-- The codes below k that are the least ones of their graphs. -/
def lowA (n k : Nat) : List Nat := (List.range k).filter fun c => decide (leastL (codeG n c) = c)
theorem lowA_succ (n k : Nat) : lowA n (k + 1) = if leastL (codeG n k) = k then lowA n k ++ [k] else lowA n k := by
  unfold lowA
  rw [List.range_succ, List.filter_append]
  by_cases h : leastL (codeG n k) = k
  · rw [if_pos h, List.filter_cons_of_pos (by simpa using h)]; rfl
  · rw [if_neg h, List.filter_cons_of_neg (by simpa using h)]; simp
theorem lowA_all {n : Nat} (h1 : 1 ≤ n) (h5 : n ≤ 5) : lowA n (2 ^ (rows n).length) = firstA n := by
  rw [← selfA h1 h5, selfAt_eq, tabA_len h1 h5]
  unfold lowA
  rw [List.range_eq_range']
  refine List.filter_congr fun c hc => ?_
  have h := (List.mem_range'_1.1 hc).2
  rw [leastA h1 h5 (by omega), Nat.sub_zero, Bool.eq_iff_iff, decide_eq_true_eq, Nat.beq_eq]
theorem firstA_mem {n : Nat} (h1 : 1 ≤ n) (h5 : n ≤ 5) {c : Nat} : c ∈ firstA n ↔ c < 2 ^ (rows n).length ∧ leastL (codeG n c) = c := by
  rw [← lowA_all h1 h5]
  unfold lowA
  rw [List.mem_filter, List.mem_range, decide_eq_true_eq]
theorem firstA_pw {n : Nat} (h1 : 1 ≤ n) (h5 : n ≤ 5) : (firstA n).Pairwise (· < ·) := by
  obtain rfl | rfl | rfl | rfl | rfl : n = 1 ∨ n = 2 ∨ n = 3 ∨ n = 4 ∨ n = 5 := by omega
  all_goals decide +kernel
theorem firstA_len {n : Nat} (h5 : n ≤ 5) : (firstA n).length ≤ 34 := by
  obtain rfl | rfl | rfl | rfl | rfl | rfl : n = 0 ∨ n = 1 ∨ n = 2 ∨ n = 3 ∨ n = 4 ∨ n = 5 := by omega
  all_goals decide
theorem least_code {n : Nat} (h1 : 1 ≤ n) (h5 : n ≤ 6) {c : Nat} : leastL (codeG n c) < 2 ^ (rows n).length ∧ leastL (codeG n (leastL (codeG n c))) = leastL (codeG n c) := by
  have hg := codeG_graph (n := n) c h1 h5
  have hl := codeG_length n c
  obtain ⟨P, hP, e⟩ := least_is hg
  have hM := named_graph hg hP
  have hMl : (namedL (codeG n c) P).length = n := by rw [namedL_length, hl]
  rw [e]
  have h2 := codeG_of hM
  rw [hMl] at h2
  have h3 := code_lt (namedL (codeG n c) P)
  rw [hMl] at h3
  refine ⟨h3, ?_⟩
  rw [h2, least_named hg hP, e]
/-! ### one node more -/
def overA (n : Nat) (code s : Nat) : Nat := code ||| s * 2 ^ (n * (n - 1) / 2)
def prodA (n : Nat) : List Nat := (firstA n).flatMap fun code => (List.range (2 ^ n)).map fun s => (tabA (n + 1)).getD (overA n code s) 0
def rangeA (n : Nat) : Bool := (firstA n).all fun code => (List.range (2 ^ n)).all fun s => Nat.blt (overA n code s) (tabA (n + 1)).length
/-- All numbers of the second list are on the first. -/
def coverA (P Q : List Nat) : Bool := Q.all fun x => P.contains x
theorem range1 : rangeA 1 = true := by decide +kernel
theorem range2 : rangeA 2 = true := by decide +kernel
theorem range3 : rangeA 3 = true := by decide +kernel
theorem range4 : rangeA 4 = true := by decide +kernel
theorem cover1 : coverA (prodA 1) (firstA 2) = true := by decide +kernel
theorem cover2 : coverA (prodA 2) (firstA 3) = true := by decide +kernel
theorem cover3 : coverA (prodA 3) (firstA 4) = true := by decide +kernel
theorem cover4 : coverA (prodA 4) (firstA 5) = true := by decide +kernel
theorem overA_lt {n : Nat} (h1 : 1 ≤ n) (h4 : n ≤ 4) {code s : Nat} (hc : code ∈ firstA n) (hs : s < 2 ^ n) : overA n code s < 2 ^ (rows (n + 1)).length := by
  have h : rangeA n = true := by
    obtain rfl | rfl | rfl | rfl : n = 1 ∨ n = 2 ∨ n = 3 ∨ n = 4 := by omega
    · exact range1
    · exact range2
    · exact range3
    · exact range4
  have h2 := List.all_eq_true.1 (List.all_eq_true.1 h code hc) s (List.mem_range.2 hs)
  rw [tabA_len (by omega) (by omega)] at h2
  exact Nat.blt_eq.mp h2
theorem firstA_over {n : Nat} (h1 : 1 ≤ n) (h4 : n ≤ 4) {x : Nat} : x ∈ firstA (n + 1) ↔ ∃ code ∈ firstA n, ∃ s, s < 2 ^ n ∧ x = leastL (codeG (n + 1) (overA n code s)) := by
  constructor
  · intro hx
    have h : coverA (prodA n) (firstA (n + 1)) = true := by
      obtain rfl | rfl | rfl | rfl : n = 1 ∨ n = 2 ∨ n = 3 ∨ n = 4 := by omega
      · exact cover1
      · exact cover2
      · exact cover3
      · exact cover4
    have h2 := List.all_eq_true.1 h x hx
    rw [List.contains_iff_mem] at h2
    unfold prodA at h2
    obtain ⟨code, hc, h3⟩ := List.mem_flatMap.1 h2
    obtain ⟨s, hs, e⟩ := List.mem_map.1 h3
    have hs2 := List.mem_range.1 hs
    exact ⟨code, hc, s, hs2, by rw [← e, leastA (by omega) (by omega) (overA_lt h1 h4 hc hs2)]⟩
  · rintro ⟨code, hc, s, hs, rfl⟩
    have hlt := overA_lt h1 h4 hc hs
    have hl := least_code (n := n + 1) (c := overA n code s) (by omega) (by omega)
    exact (firstA_mem (by omega) (by omega)).2 hl
end Go.Proofs.YtogmfbhnnnoipaaDoor
