/- Graphs of up to five nodes have trees just if they are linked, and one tree alone where they have one edge less than nodes. -/
import Derived.Test.YtneglpklkmoclaaDoorTreesList
namespace Go.Proofs.YtneglpklkmoclaaDoor
open Go Go.RowKit
set_option linter.unusedVariables false
set_option maxRecDepth 100000

def okLT (n c t : Nat) : Bool := (decide (0 < t) == (turns (codeG n c) n == 2 ^ n - 1)) && (!(turns (codeG n c) n == 2 ^ n - 1) || !(pcf 15 c == n - 1) || t == 1)
def okLTA (n N : Nat) : Bool := (List.range N).all fun c => okLT n c (lenIn (flt (treeB n) (rows n).length 0) c)
def okLT5 (a : Nat) : Bool := (List.range 256).all fun c => okLT 5 (256 * a + c) (lenIn tr5 (256 * a + c))
theorem okLT_1 : okLTA 1 1 = true := by decide +kernel
theorem okLT_2 : okLTA 2 2 = true := by decide +kernel
theorem okLT_3 : okLTA 3 8 = true := by decide +kernel
theorem okLT_4 : okLTA 4 64 = true := by decide +kernel
theorem okLT5_0 : okLT5 0 = true := by decide +kernel
theorem okLT5_1 : okLT5 1 = true := by decide +kernel
theorem okLT5_2 : okLT5 2 = true := by decide +kernel
theorem okLT5_3 : okLT5 3 = true := by decide +kernel
theorem okLT_5 {c : Nat} (hc : c < 1024) : okLT 5 c (lenIn tr5 c) = true := by
  have hr : c % 256 < 256 := Nat.mod_lt _ (by decide)
  have ha : c / 256 = 0 ∨ c / 256 = 1 ∨ c / 256 = 2 ∨ c / 256 = 3 := by omega
  have e : c = 256 * (c / 256) + c % 256 := by omega
  rw [e]
  rcases ha with ha | ha | ha | ha <;> rw [ha]
  · exact List.all_eq_true.1 okLT5_0 _ (List.mem_range.2 hr)
  · exact List.all_eq_true.1 okLT5_1 _ (List.mem_range.2 hr)
  · exact List.all_eq_true.1 okLT5_2 _ (List.mem_range.2 hr)
  · exact List.all_eq_true.1 okLT5_3 _ (List.mem_range.2 hr)
theorem trees_linked {L : List Int} (hg : IsGraph L) (h5 : L.length ≤ 5) :
    (0 < treesN L ↔ turns L L.length = 2 ^ L.length - 1) ∧ (turns L L.length = 2 ^ L.length - 1 → edgesN L = L.length - 1 → treesN L = 1) := by
  have key : okLT L.length (codeOf L) (treesN L) = true := by
    have hc := code_lt L
    have hL := codeG_of hg
    have h1 := hg.1
    rw [← hL]
    have hlen : (codeG L.length (codeOf L)).length = L.length := codeG_length _ _
    have hcode : codeOf (codeG L.length (codeOf L)) = codeOf L := by rw [hL]
    rw [hcode, hlen]
    generalize codeOf L = c at hc
    generalize L.length = n at *
    have hn : n = 1 ∨ n = 2 ∨ n = 3 ∨ n = 4 ∨ n = 5 := by omega
    rcases hn with rfl | rfl | rfl | rfl | rfl
    · rw [lenIn_is (by omega) (by omega) hc]; exact List.all_eq_true.1 okLT_1 c (List.mem_range.2 hc)
    · rw [lenIn_is (by omega) (by omega) hc]; exact List.all_eq_true.1 okLT_2 c (List.mem_range.2 hc)
    · rw [lenIn_is (by omega) (by omega) hc]; exact List.all_eq_true.1 okLT_3 c (List.mem_range.2 hc)
    · rw [lenIn_is (by omega) (by omega) hc]; exact List.all_eq_true.1 okLT_4 c (List.mem_range.2 hc)
    · rw [trees5 hc]; exact okLT_5 hc
  unfold okLT at key
  rw [codeG_of hg, Bool.and_eq_true] at key
  obtain ⟨k1, k2⟩ := key
  constructor
  · rw [beq_iff_eq] at k1
    constructor
    · intro h
      rw [decide_eq_true h] at k1
      simpa using k1.symm
    · intro h
      rw [h] at k1
      simpa using k1
  · intro h he
    unfold edgesN at he
    rw [h, he] at k2
    simpa using k2
end Go.Proofs.YtneglpklkmoclaaDoor
