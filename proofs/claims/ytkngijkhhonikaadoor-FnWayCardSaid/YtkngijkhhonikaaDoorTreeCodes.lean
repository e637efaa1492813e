/- What is to be shown for all trees need be shown for their codes: by the kernel. -/
import Derived.Test.YtkngijkhhonikaaDoorBaseG
import Derived.Test.YtkngijkhhonikaaDoorOnesAll
namespace Go.Proofs.YtkngijkhhonikaaDoor
open Go Go.RowKit
set_option linter.unusedVariables false
set_option maxRecDepth 100000

def treeC (n c : Nat) : Bool := Nat.beq (pcf 15 c + 1) n && Nat.beq (turns (codeG n c) n) (2 ^ n - 1)
theorem tree_code {L : List Int} (h : IsTree L) : treeC L.length (codeOf L) = true := by
  have h1 := h.1.2
  have h2 : edgesN L + 1 = L.length := h.2
  have hu : pcf 15 (codeOf L) = edgesN L := rfl
  unfold treeC
  rw [codeG_of h.1.1, Bool.and_eq_true, hu, h1, h2]
  exact ⟨Nat.beq_refl _, Nat.beq_refl _⟩
def onTree (p : List Int → Bool) (n c : Nat) : Bool := !treeC n c || p (codeG n c)
theorem rows_len : ∀ n : Fin 7, (rows n.val).length = n.val * (n.val - 1) / 2 := by decide
theorem by_trees {p : List Int → Bool} (h1 : allP (onTree p 1) 0 0 = true) (h2 : allP (onTree p 2) 1 0 = true) (h3 : allP (onTree p 3) 3 0 = true) (h4 : allP (onTree p 4) 6 0 = true) (h5 : allP (onTree p 5) 10 0 = true)
    (h60 : allP (onTree p 6) 12 0 = true) (h61 : allP (onTree p 6) 12 4096 = true) (h62 : allP (onTree p 6) 12 8192 = true) (h63 : allP (onTree p 6) 12 12288 = true)
    (h64 : allP (onTree p 6) 12 16384 = true) (h65 : allP (onTree p 6) 12 20480 = true) (h66 : allP (onTree p 6) 12 24576 = true) (h67 : allP (onTree p 6) 12 28672 = true)
    {L : List Int} (h : IsTree L) : p L = true := by
  have g1 := h.1.1.1
  have g6 := h.1.1.2.1
  have hc := code_lt L
  have ht := tree_code h
  have e := codeG_of h.1.1
  have hl := rows_len ⟨L.length, by omega⟩
  dsimp only at hl
  rw [hl] at hc
  have key : onTree p L.length (codeOf L) = true := by
    obtain ⟨n, hn⟩ : ∃ n, n = L.length := ⟨_, rfl⟩
    rw [← hn] at hc g1 g6 ⊢
    have hk : n = 1 ∨ n = 2 ∨ n = 3 ∨ n = 4 ∨ n = 5 ∨ n = 6 := by omega
    obtain ⟨c, ec⟩ : ∃ c, c = codeOf L := ⟨_, rfl⟩
    rw [← ec] at hc ⊢
    rcases hk with rfl | rfl | rfl | rfl | rfl | rfl
    · exact allP_spec h1 c (by omega) (by simpa using hc)
    · exact allP_spec h2 c (by omega) (by simpa using hc)
    · exact allP_spec h3 c (by omega) (by simpa using hc)
    · exact allP_spec h4 c (by omega) (by simpa using hc)
    · exact allP_spec h5 c (by omega) (by simpa using hc)
    · exact allP_15 h60 h61 h62 h63 h64 h65 h66 h67 c (by simpa using hc)
  unfold onTree at key
  rw [ht, e] at key
  simpa using key
end Go.Proofs.YtkngijkhhonikaaDoor
