/- AlikeIn and AlikeFirst at any two lists. -/
import Derived.Test.YtcemhepojjbcgaaDoorLagrange
import Derived.Test.YtcemhepojjbcgaaDoorFlat
import Derived.Test.YtcemhepojjbcgaaDoorBaseE
import Derived.Test.YtcemhepojjbcgaaDoorFirstLaw
import Derived.Test.YtcemhepojjbcgaaDoorSpecFirst
import Derived.Test.YtcemhepojjbcgaaDoorBaseL
import Derived.Test.YtcemhepojjbcgaaDoorBaseA
namespace Go.Proofs.YtcemhepojjbcgaaDoor
open Go Go.RowKit
set_option linter.unusedVariables false
set_option maxRecDepth 100000

def Like (L M : List Int) : Prop := IsGraph L ∧ IsGraph M ∧ L.length = M.length ∧ edgesN L = edgesN M ∧ leastL L = leastL M
theorem like_sym {L M : List Int} (h : Like L M) : Like M L := ⟨h.2.1, h.1, h.2.2.1.symm, h.2.2.2.1.symm, h.2.2.2.2.symm⟩
theorem like_names {L M : List Int} (h : Like L M) : ∃ P, P ∈ likeL L M ∧ Names L.length L.length P ∧ namedL L P = M := by
  have hne := (alike_iff h.1 h.2.1 h.2.2.1).2 h.2.2.2
  obtain ⟨P, hP⟩ := List.exists_mem_of_ne_nil _ hne
  have h2 := hP
  rw [likeL_codes h.1 h.2.1 h.2.2.1, List.mem_filter] at h2
  have hN := perms_names _ _ _ h2.1
  exact ⟨P, hP, hN, (okC_iff h.1 h.2.1 h.2.2.1 hN).1 h2.2⟩
theorem like_named {L : List Int} (hL : IsGraph L) {P : List Nat} (hP : Names L.length L.length P) : Like L (namedL L P) := ⟨hL, named_graph hL hP, (namedL_length L P).symm, (edges_named hL hP).symm, (least_named hL hP).symm⟩
theorem like_other {L M : List Int} (h : Like L M) : Like (otherL L L.length) (otherL M M.length) := by
  obtain ⟨P, _, hP, e⟩ := like_names h
  have h2 := like_named (other_graph h.1) (P := P) (by rw [otherL_length]; exact hP)
  rw [named_other h.1 hP, e] at h2
  exact h2
theorem alike_all (L M : List Int) : ∃ b : Bool, (b = true ↔ Like L M) ∧ (∀ B B' v v' w, Row w B v L → Row w B' v' M → Calls Tryd.prog 17 #[v, v'] w (Said1 w b)) ∧
    (∀ B B' v v' w, Row w B v L → Row w B' v' M → Tab w → Calls Tryd.prog 16 #[v, v'] w (Said1 w b)) := by
  by_cases hL : IsGraph L
  · by_cases hM : IsGraph M
    · by_cases hl : L.length = M.length
      · refine ⟨decide (edgesN L = edgesN M ∧ leastL L = leastL M), ?_, fun B B' v v' w a b => specAlike_graphs B B' v v' L M hL hM hl w a b,
          fun B B' v v' w a b t => implAlike_graphs B B' v v' L M _ hL hM w a b t (fun A A' c c' w sL sM hT => alike_any A A' c c' L M hL hM hl w sL sM hT)⟩
        rw [decide_eq_true_eq]
        exact ⟨fun h => ⟨hL, hM, hl, h⟩, fun h => h.2.2.2⟩
      · exact ⟨false, ⟨fun h => (by cases h), fun h => absurd h.2.2.1 hl⟩, fun B B' v v' w a b => specAlike_len B B' v v' L M hL hM hl w a b,
          fun B B' v v' w a b t => implAlike_graphs B B' v v' L M _ hL hM w a b t (fun A A' c c' w _ _ _ => alike_of A A' _ _ c c' [] false w (callsIn_wide.1 (firstLike_len A A' _ _ c c' hl w)))⟩
    · exact ⟨false, ⟨fun h => (by cases h), fun h => absurd h.2.1 hM⟩, fun B B' v v' w a b => specAlike_second B B' v v' L M hL hM w a b, fun B B' v v' w a b t => implAlike_none v v' w (asGs_second B B' v v' L M hL hM w a b t)⟩
  · exact ⟨false, ⟨fun h => (by cases h), fun h => absurd h.1 hL⟩, fun B B' v v' w a b => specAlike_first B B' v v' L M hL w a b, fun B B' v v' w a b t => implAlike_none v v' w (asGs_first B B' v v' L M hL w a b t)⟩
theorem first_all (L M : List Int) : ∃ (R : List Int) (ok : Bool), (ok = true ↔ Like L M) ∧ R.length ≤ 1000 ∧ (ok = false → R = []) ∧ (ok = true → ∃ P, Names L.length L.length P ∧ R = ints P ∧ namedL L P = M) ∧
    (∀ B B' v v' w, Row w B v L → Row w B' v' M → Calls Tryd.prog 21 #[v, v'] w (Told w R ok)) ∧
    (∀ B B' v v' w, Row w B v L → Row w B' v' M → Tab w → Calls Tryd.prog 18 #[v, v'] w (Told w R ok)) := by
  by_cases hL : IsGraph L
  · by_cases hM : IsGraph M
    · by_cases hl : L.length = M.length
      · refine ⟨firstL (likeL L M), !(likeL L M).isEmpty, ?_, firstL_length hL hM hl, ?_, ?_, fun B B' v v' w a b => (specFirst_like B B' v v' L M hL hM hl w a b).mono fun e w' => firstR_is,
          fun B B' v v' w a b t => implFirst_of B B' v v' L M _ _ hL hM w a b t (fun A A' c c' w sL sM hT => (callsIn_wide.1 (firstLike_in A A' c c' L M hL hM hl w sL sM hT)).mono fun e w' => firstR_is)⟩
        · have h := alike_iff hL hM hl
          have e : (!(likeL L M).isEmpty) = true ↔ likeL L M ≠ [] := by cases likeL L M <;> simp
          rw [e, h]
          exact ⟨fun h => ⟨hL, hM, hl, h⟩, fun h => h.2.2.2⟩
        · intro h
          have e : likeL L M = [] := by
            cases hc : likeL L M with
            | nil => rfl
            | cons a t => rw [hc] at h; cases h
          rw [e]
          rfl
        · intro h
          cases hc : likeL L M with
          | nil => rw [hc] at h; cases h
          | cons P t =>
            have hP : P ∈ likeL L M := by rw [hc]; exact List.mem_cons_self
            rw [likeL_codes hL hM hl, List.mem_filter] at hP
            have hN := perms_names _ _ _ hP.1
            exact ⟨P, hN, rfl, (okC_iff hL hM hl hN).1 hP.2⟩
      · exact ⟨[], false, ⟨fun h => (by cases h), fun h => absurd h.2.2.1 hl⟩, by simp, fun _ => rfl, fun h => (by cases h), fun B B' v v' w a b => specFirst_len B B' v v' L M hL hM hl w a b,
          fun B B' v v' w a b t => implFirst_of B B' v v' L M _ _ hL hM w a b t (fun A A' c c' w _ _ _ => callsIn_wide.1 (firstLike_len A A' _ _ c c' hl w))⟩
    · exact ⟨[], false, ⟨fun h => (by cases h), fun h => absurd h.2.1 hM⟩, by simp, fun _ => rfl, fun h => (by cases h), fun B B' v v' w a b => specFirst_second B B' v v' L M hL hM w a b, fun B B' v v' w a b t => implFirst_none v v' w (asGs_second B B' v v' L M hL hM w a b t)⟩
  · exact ⟨[], false, ⟨fun h => (by cases h), fun h => absurd h.1 hL⟩, by simp, fun _ => rfl, fun h => (by cases h), fun B B' v v' w a b => specFirst_first B B' v v' L M hL w a b, fun B B' v v' w a b t => implFirst_none v v' w (asGs_first B B' v v' L M hL w a b t)⟩
end Go.Proofs.YtcemhepojjbcgaaDoor
