/- Graphs that are alike, and the names that show it. Plain mathematics. -/
import Derived.Test.YtamabhdbcmjbjaaDoorBaseG
namespace Go.Proofs.YtamabhdbcmjbjaaDoor
open Go Go.RowKit
set_option linter.unusedVariables false
set_option maxRecDepth 100000

theorem okC_iff {L M : List Int} (hL : IsGraph L) (hM : IsGraph M) (hl : L.length = M.length) {P : List Nat} (hP : Names L.length L.length P) : okC L M P = true ↔ namedL L P = M := by
  unfold okC
  rw [beq_iff_eq]
  exact ⟨fun h => code_inj (named_graph hL hP) hM ((namedL_length L P).trans hl) h, fun h => by rw [h]⟩
def Like (L M : List Int) : Prop := IsGraph L ∧ IsGraph M ∧ L.length = M.length ∧ edgesN L = edgesN M ∧ leastL L = leastL M
theorem like_sym {L M : List Int} (h : Like L M) : Like M L := ⟨h.2.1, h.1, h.2.2.1.symm, h.2.2.2.1.symm, h.2.2.2.2.symm⟩
theorem like_names {L M : List Int} (h : Like L M) : ∃ P, P ∈ likeL L M ∧ Names L.length L.length P ∧ namedL L P = M := by
  have hne := (alike_iff h.1 h.2.1 h.2.2.1).2 h.2.2.2
  obtain ⟨P, hP⟩ := List.exists_mem_of_ne_nil _ hne
  have h2 := hP
  rw [likeL_codes h.1 h.2.1 h.2.2.1, List.mem_filter] at h2
  have hN := perms_names _ _ _ h2.1
  exact ⟨P, hP, hN, (okC_iff h.1 h.2.1 h.2.2.1 hN).1 h2.2⟩
theorem like_named {L : List Int} (hL : IsGraph L) {P : List Nat} (hP : Names L.length L.length P) : Like L (namedL L P) := ⟨hL, named_graph hL hP, (namedL_length L P).symm, (edges_named hL hP).symm, (least_named hL hP).symm⟩
end Go.Proofs.YtamabhdbcmjbjaaDoor
