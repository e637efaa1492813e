/- The polynomial of the matrix less its degrees has x as often as nodes times trees, with its sign. Plain mathematics (for NumberTrees). -/
import Derived.Test.YtkngijkhhonikaaDoorTreesList
import Derived.Test.YtkngijkhhonikaaDoorLapPack
namespace Go.Proofs.YtkngijkhhonikaaDoor
open Go Go.RowKit
set_option linter.unusedVariables false
set_option maxRecDepth 100000

def okT (n c t : Nat) : Bool := decide (sg (n - 1) * ((eL (qF (codeG n c)) (n - 1))[n - 1]?.getD 0) = ((t * n : Nat) : Int))
def okTP (F : List (Nat × List Nat)) : Bool := F.all fun e => (List.range 32).all fun s => okT 6 (e.1 + 1024 * s) (lenIn tr6 (e.1 + 1024 * s))
def okTA (n N : Nat) : Bool := (List.range N).all fun c => okT n c (lenIn (flt (treeB n) (rows n).length 0) c)
theorem okT1 : okTA 1 1 = true := by decide +kernel
theorem okT2 : okTA 2 2 = true := by decide +kernel
theorem okT3 : okTA 3 8 = true := by decide +kernel
theorem okT4 : okTA 4 64 = true := by decide +kernel
theorem okT5 : (firsts5.all fun e => okT 5 e.1 (lenIn tr5 e.1)) = true := by decide +kernel
theorem okTP0 : okTP ((firsts5.drop 0).take 4) = true := by decide +kernel
theorem okTP1 : okTP ((firsts5.drop 4).take 4) = true := by decide +kernel
theorem okTP2 : okTP ((firsts5.drop 8).take 4) = true := by decide +kernel
theorem okTP3 : okTP ((firsts5.drop 12).take 4) = true := by decide +kernel
theorem okTP4 : okTP ((firsts5.drop 16).take 4) = true := by decide +kernel
theorem okTP5 : okTP ((firsts5.drop 20).take 4) = true := by decide +kernel
theorem okTP6 : okTP ((firsts5.drop 24).take 4) = true := by decide +kernel
theorem okTP7 : okTP ((firsts5.drop 28).take 4) = true := by decide +kernel
theorem okTP8 : okTP ((firsts5.drop 32).take 4) = true := by decide +kernel
theorem okT6 {e : Nat × List Nat} (he : e ∈ firsts5) {s : Nat} (hs : s < 32) : okT 6 (e.1 + 1024 * s) (lenIn tr6 (e.1 + 1024 * s)) = true := by
  have key : ∀ {F : List (Nat × List Nat)}, okTP F = true → e ∈ F → okT 6 (e.1 + 1024 * s) (lenIn tr6 (e.1 + 1024 * s)) = true := fun h hm =>
    List.all_eq_true.1 (List.all_eq_true.1 h e hm) s (List.mem_range.2 hs)
  rw [pieces5] at he
  simp only [List.mem_append] at he
  rcases he with h | h | h | h | h | h | h | h | h
  · exact key okTP0 h
  · exact key okTP1 h
  · exact key okTP2 h
  · exact key okTP3 h
  · exact key okTP4 h
  · exact key okTP5 h
  · exact key okTP6 h
  · exact key okTP7 h
  · exact key okTP8 h
/-- What is shown of each graph. -/
def TreesNum (L : List Int) : Prop := IsGraph L → sg (L.length - 1) * eN (qN L) (L.length - 1) = ((treesN L * L.length : Nat) : Int)
theorem treesNum_tame : Tame TreesNum := fun L P hg hP h _ => by
  have h2 := h (named_graph hg hP)
  rw [namedL_length, trees_named hg hP, eN_congr (q := qN L) fun i _ _ => qN_named hg.2.1 hP i] at h2
  exact h2
theorem okT_num {n c t : Nat} (h6 : n ≤ 6) (ht : treesN (codeG n c) = t) (h : okT n c t = true) : TreesNum (codeG n c) := fun hg => by
  have hl := codeG_length n c
  have e := of_decide_eq_true h
  rw [hl, ht, ← e]
  congr 1
  show _ = eN (qF (codeG n c)) (n - 1)
  exact eN_congr fun i _ hi => (qF_is hg i (by omega)).symm
/-- **The trees by the polynomial.** -/
theorem trees_num {L : List Int} (hg : IsGraph L) : sg (L.length - 1) * eN (qN L) (L.length - 1) = ((treesN L * L.length : Nat) : Int) := by
  refine by_classes treesNum_tame (fun n h1 h4 c hc => ?_) (fun e he => ?_) (fun e he s hs => ?_) hg hg
  · refine okT_num (by omega) (lenIn_is h1 (by omega) hc) ?_
    obtain rfl | rfl | rfl | rfl : n = 1 ∨ n = 2 ∨ n = 3 ∨ n = 4 := by omega
    · exact List.all_eq_true.1 okT1 c (List.mem_range.2 hc)
    · exact List.all_eq_true.1 okT2 c (List.mem_range.2 hc)
    · exact List.all_eq_true.1 okT3 c (List.mem_range.2 hc)
    · exact List.all_eq_true.1 okT4 c (List.mem_range.2 hc)
  · exact okT_num (by decide) (trees5 (firsts5_lt e he)) (List.all_eq_true.1 okT5 e he)
  · exact okT_num (by decide) (trees6 (by have := firsts5_lt e he; omega)) (okT6 he hs)
end Go.Proofs.YtkngijkhhonikaaDoor
