/- Newton's sums leave no rest at any graph; two graphs have one polynomial where they have the same numbers of closed walks. Plain mathematics. -/
import Derived.Test.YtneglpklkmoclaaDoorNewton
namespace Go.Proofs.YtneglpklkmoclaaDoor
open Go Go.RowKit
set_option linter.unusedVariables false
set_option maxRecDepth 100000

def newtB (n : Nat) (E : List Int) (p : Nat → Int) : Bool := (List.range 6).all fun k => decide (sumTo (fun i => sg i * (E[k - i]?.getD 0) * p (i + 1)) (k + 1) = ((k + 1 : Nat) : Int) * (if k + 1 ≤ n then E[k + 1]?.getD 0 else 0))
def pP (L : List Int) (i : Nat) : Int := ((closedP L i : Nat) : Int)
def okN (n c : Nat) : Bool := newtB n (eL (pP (codeG n c)) 6) (pP (codeG n c))
def okPiece (F : List (Nat × List Nat)) : Bool := F.all fun e => (List.range 32).all fun s => okN 6 (e.1 + 1024 * s)
def okAll (n N : Nat) : Bool := (List.range N).all (okN n)
theorem okN1 : okAll 1 1 = true := by decide +kernel
theorem okN2 : okAll 2 2 = true := by decide +kernel
theorem okN3 : okAll 3 8 = true := by decide +kernel
theorem okN4 : okAll 4 64 = true := by decide +kernel
theorem okN5 : (firsts5.all fun e => okN 5 e.1) = true := by decide +kernel
theorem okP0 : okPiece ((firsts5.drop 0).take 4) = true := by decide +kernel
theorem okP1 : okPiece ((firsts5.drop 4).take 4) = true := by decide +kernel
theorem okP2 : okPiece ((firsts5.drop 8).take 4) = true := by decide +kernel
theorem okP3 : okPiece ((firsts5.drop 12).take 4) = true := by decide +kernel
theorem okP4 : okPiece ((firsts5.drop 16).take 4) = true := by decide +kernel
theorem okP5 : okPiece ((firsts5.drop 20).take 4) = true := by decide +kernel
theorem okP6 : okPiece ((firsts5.drop 24).take 4) = true := by decide +kernel
theorem okP7 : okPiece ((firsts5.drop 28).take 4) = true := by decide +kernel
theorem okP8 : okPiece ((firsts5.drop 32).take 4) = true := by decide +kernel
theorem okN6 {e : Nat × List Nat} (he : e ∈ firsts5) {s : Nat} (hs : s < 32) : okN 6 (e.1 + 1024 * s) = true := by
  have key : ∀ {F : List (Nat × List Nat)}, okPiece F = true → e ∈ F → okN 6 (e.1 + 1024 * s) = true := fun h hm =>
    List.all_eq_true.1 (List.all_eq_true.1 h e hm) s (List.mem_range.2 hs)
  rw [pieces5] at he
  simp only [List.mem_append] at he
  rcases he with h | h | h | h | h | h | h | h | h
  · exact key okP0 h
  · exact key okP1 h
  · exact key okP2 h
  · exact key okP3 h
  · exact key okP4 h
  · exact key okP5 h
  · exact key okP6 h
  · exact key okP7 h
  · exact key okP8 h
theorem newtB_at {n : Nat} {p : Nat → Int} (h : newtB n (eL p 6) p = true) (k : Nat) (h1 : 1 ≤ k) (h6 : k ≤ 6) : Newt n p k := by
  obtain ⟨j, rfl⟩ : ∃ j, k = j + 1 := ⟨k - 1, by omega⟩
  have e := of_decide_eq_true (List.all_eq_true.1 h j (List.mem_range.2 (by omega)))
  unfold Newt
  rw [eL_get p h6] at e
  rw [← e]
  exact sumTo_congr fun i hi => by rw [eL_get p (by omega : j - i ≤ 6), show j + 1 - 1 - i = j - i by omega]
/-- What is shown of each graph. -/
def Sums (L : List Int) : Prop := ∀ k, 1 ≤ k → k ≤ 6 → Newt L.length (pN L) k
theorem sums_tame : Tame Sums := fun L P hg hP h k h1 h6 => by
  have h2 := h k h1 h6
  rw [namedL_length] at h2
  exact newt_congr (fun i _ _ => by unfold pN; rw [closed_named hP]) h2
theorem okN_sums {n c : Nat} (hn : n ≤ 6) (h : okN n c = true) : Sums (codeG n c) := fun k h1 h6 => by
  have h2 := newtB_at h k h1 h6
  have hl := codeG_length n c
  rw [hl]
  exact newt_congr (fun i _ hi => by unfold pN pP; rw [closedP_is _ (by rw [hl]; exact hn) i (by omega)]) h2
theorem sums_all {L : List Int} (hg : IsGraph L) : Sums L := by
  refine by_classes sums_tame (fun n h1 h4 c hc => ?_) (fun e he => okN_sums (by decide) (List.all_eq_true.1 okN5 e he)) (fun e he s hs => okN_sums (by decide) (okN6 he hs)) hg
  refine okN_sums (by omega) ?_
  obtain rfl | rfl | rfl | rfl : n = 1 ∨ n = 2 ∨ n = 3 ∨ n = 4 := by omega
  · exact List.all_eq_true.1 okN1 c (List.mem_range.2 hc)
  · exact List.all_eq_true.1 okN2 c (List.mem_range.2 hc)
  · exact List.all_eq_true.1 okN3 c (List.mem_range.2 hc)
  · exact List.all_eq_true.1 okN4 c (List.mem_range.2 hc)
theorem sumN_ones (n : Nat) : sumN (fun _ => 1) n = n := by
  induction n with
  | zero => rfl
  | succ n ih => rw [sumN, ih]
theorem wk_self (L : List Int) (v : Nat) : wk L 0 v v = 1 := if_pos rfl
theorem closedN_zero (L : List Int) : closedN L 0 = L.length := by
  have h : closedN L 0 = sumN (fun _ => 1) L.length := sumN_congr fun v _ => wk_self L v
  rw [h, sumN_ones]
/-- **One polynomial where the numbers of closed walks are the same.** -/
theorem same_poly {L M : List Int} (hL : IsGraph L) (hM : IsGraph M) : polyL L = polyL M ↔ ∀ i, i < 7 → closedN L i = closedN M i := by
  have h6 := hL.2.1
  constructor
  · intro h
    have hl : L.length = M.length := by
      have := congrArg List.length h
      unfold polyL at this
      rw [pl_length, pl_length] at this
      omega
    have he : ∀ k, k ≤ L.length → eN (pN L) k = eN (pN M) k := fun k hk => by
      have h2 : (polyL L)[L.length - k]?.getD 0 = (polyL M)[L.length - k]?.getD 0 := by rw [h]
      unfold polyL at h2
      rw [← hl, pl_get _ _ _ (by omega), pl_get _ _ _ (by omega), if_pos (by omega), if_pos (by omega), show L.length - (L.length - k) = k by omega] at h2
      rcases sg_or k with e | e <;> rw [e] at h2 <;> omega
    have hS := sums_all hM
    unfold Sums at hS
    rw [← hl] at hS
    have ht := newt_tells (sums_all hL) hS he 6 (Nat.le_refl 6)
    intro i hi
    rcases Nat.eq_zero_or_pos i with e | e
    · subst e
      rw [closedN_zero, closedN_zero, hl]
    · have h2 := ht i e (by omega)
      unfold pN at h2
      omega
  · intro h
    have hl : L.length = M.length := by
      have := h 0 (by decide)
      rw [closedN_zero, closedN_zero] at this
      exact this
    have hp : ∀ i, 1 ≤ i → i ≤ 6 → pN L i = pN M i := fun i _ hi => by unfold pN; rw [h i (by omega)]
    unfold polyL pl
    rw [← hl]
    refine List.map_congr_left fun t ht => ?_
    rw [eN_congr fun i h1 h2 => hp i h1 (by omega)]
end Go.Proofs.YtneglpklkmoclaaDoor
