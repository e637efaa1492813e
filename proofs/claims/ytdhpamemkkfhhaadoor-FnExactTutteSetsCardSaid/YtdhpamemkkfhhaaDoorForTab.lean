/- The table by forests: the program's sum against the model's count, at all codes. -/
import Derived.Test.YtdhpamemkkfhhaaDoorTreesSum
import Derived.Test.YtdhpamemkkfhhaaDoorRowsKit
import Derived.Test.YtdhpamemkkfhhaaDoorActTab
namespace Go.Proofs.YtdhpamemkkfhhaaDoor
open Go Go.RowKit
set_option linter.unusedVariables false
set_option maxRecDepth 100000

/-- The model's way: one more for each forest, from the whole set down. -/
def incS (T : List (List Int)) (i j : Nat) : List (List Int) := T.set i ((T[i]?.getD []).set j (wrap64 ((T[i]?.getD [])[j]?.getD 0 + 1)))
def spStep (C : Nat) (T : List (List Int)) (s : Nat) : List (List Int) := if forB C s = true then incS T (actP C s).1 (actP C s).2 else T
def spFrom (C : Nat) : Nat → Nat → List (List Int) → List (List Int)
  | 0, _, T => T
  | f + 1, s, T => if s = 0 then spStep C T s else spFrom C f ((s - 1) &&& C) (spStep C T s)
def treesS (C : Nat) : List (List Int) := spFrom C 1024 C (zeroT (rkT C) (pcf 15 C))
def mono2 (i j : Nat) : List (List Int) := List.replicate i [] ++ [List.replicate j 0 ++ [1]]
theorem mono_all : ∀ i : Fin 11, ∀ j : Fin 11, monoXY i.val j.val = mono2 i.val j.val := by decide +kernel
def trStep2 (C : Nat) (T : List (List Int)) (s : Nat) : List (List Int) := if forB C s = true then plusT T (mono2 (actP C s).1 (actP C s).2) else T
theorem trStep_eq (C : Nat) : trStep C = trStep2 C := by
  funext T s
  unfold trStep trStep2
  have h := actP_le C s
  have h2 := mono_all ⟨(actP C s).1, by omega⟩ ⟨(actP C s).2, by omega⟩
  dsimp only at h2
  rw [h2]
def treesP2 (C : Nat) : List (List Int) := (subsL C).foldl (trStep2 C) []
theorem treesP_eq (C : Nat) : treesP C = treesP2 C := by unfold treesP trRun treesP2; rw [trStep_eq]
def dimsB (a b : Nat) (T : List (List Int)) : Bool := decide (T.length ≤ a) && T.all fun r => decide (r.length ≤ b)
/-- All places are in the table. -/
def okAtS (C s : Nat) : Bool := if forB C s = true then decide ((actP C s).1 ≤ rkT C) && decide ((actP C s).2 ≤ pcf 15 C - rkT C) else true
def okFromS (C : Nat) : Nat → Nat → Bool
  | 0, _ => false
  | f + 1, s => okAtS C s && (if s = 0 then true else okFromS C f ((s - 1) &&& C))
def treesOk (C : Nat) : Bool := okFromS C 1024 C && (dimsB (rkT C + 1) (pcf 15 C - rkT C + 1) (treesP2 C) && rowsP (rkT C) (pcf 15 C) (treesP2 C) == treesS C)
theorem forT_0 : allN (fun c => treesOk (0 + c)) 128 = true := by decide +kernel
theorem forT_1 : allN (fun c => treesOk (128 + c)) 128 = true := by decide +kernel
theorem forT_2 : allN (fun c => treesOk (256 + c)) 128 = true := by decide +kernel
theorem forT_3 : allN (fun c => treesOk (384 + c)) 128 = true := by decide +kernel
theorem forT_4 : allN (fun c => treesOk (512 + c)) 128 = true := by decide +kernel
theorem forT_5 : allN (fun c => treesOk (640 + c)) 128 = true := by decide +kernel
theorem forT_6 : allN (fun c => treesOk (768 + c)) 128 = true := by decide +kernel
theorem forT_7 : allN (fun c => treesOk (896 + c)) 128 = true := by decide +kernel
theorem forT_ok {C : Nat} (hC : C < 1024) : treesOk C = true := by
  have h : ∀ k, k < 8 → ∀ r, r < 128 → treesOk (128 * k + r) = true := fun k hk r hr => by
    obtain rfl | rfl | rfl | rfl | rfl | rfl | rfl | rfl : k = 0 ∨ k = 1 ∨ k = 2 ∨ k = 3 ∨ k = 4 ∨ k = 5 ∨ k = 6 ∨ k = 7 := by omega
    · exact allN_spec forT_0 r hr
    · exact allN_spec forT_1 r hr
    · exact allN_spec forT_2 r hr
    · exact allN_spec forT_3 r hr
    · exact allN_spec forT_4 r hr
    · exact allN_spec forT_5 r hr
    · exact allN_spec forT_6 r hr
    · exact allN_spec forT_7 r hr
  have := h (C / 128) (by omega) (C % 128) (by omega)
  rwa [show 128 * (C / 128) + C % 128 = C by omega] at this
theorem dims_of {a b : Nat} {T : List (List Int)} (h : dimsB a b T = true) : T.length ≤ a ∧ RowsLe T b := by
  unfold dimsB at h
  rw [Bool.and_eq_true, decide_eq_true_eq] at h
  refine ⟨h.1, fun k => ?_⟩
  by_cases hk : k < T.length
  · rw [List.getElem?_eq_getElem hk]
    have := List.all_eq_true.1 h.2 _ (List.getElem_mem hk)
    simpa using this
  · rw [List.getElem?_eq_none (by omega)]
    simp
theorem forT_facts {C : Nat} (hC : C < 1024) : okFromS C 1024 C = true ∧ (treesP C).length ≤ rkT C + 1 ∧ RowsLe (treesP C) (pcf 15 C - rkT C + 1) ∧ rowsP (rkT C) (pcf 15 C) (treesP C) = treesS C := by
  have h := forT_ok hC
  unfold treesOk at h
  rw [Bool.and_eq_true, Bool.and_eq_true] at h
  have h2 := dims_of h.2.1
  rw [treesP_eq]
  exact ⟨h.1, h2.1, h2.2, eq_of_beq h.2.2⟩
end Go.Proofs.YtdhpamemkkfhhaaDoor
