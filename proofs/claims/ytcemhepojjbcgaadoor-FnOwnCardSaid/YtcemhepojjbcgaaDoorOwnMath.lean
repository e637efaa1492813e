/- A graph that is alike to the other graph has half of all pairs as edges, and is linked. -/
import Derived.Test.YtcemhepojjbcgaaDoorFlat
import Derived.Test.YtcemhepojjbcgaaDoorOwnLaw
import Derived.Test.YtcemhepojjbcgaaDoorPromLinked
import Derived.Test.YtcemhepojjbcgaaDoorPromNamed
namespace Go.Proofs.YtcemhepojjbcgaaDoor
open Go Go.RowKit
set_option linter.unusedVariables false
set_option maxRecDepth 100000

theorem own_facts {L : List Int} (hL : IsGraph L) (h : ownB L = true) : 4 * edgesN L = L.length * (L.length - 1) ∧ IsLinked L := by
  unfold ownB at h
  rw [decide_eq_true_eq] at h
  obtain ⟨he, hl⟩ := h
  have hO := other_graph hL
  have hol := otherL_length L L.length
  have hb := edges_both hL
  refine ⟨by rw [← he] at hb; omega, ?_⟩
  rcases linked_or hL with h1 | h1
  · exact h1
  · obtain ⟨P, hP, e1⟩ := least_is hL
    obtain ⟨Q, hQ, e2⟩ := least_is hO
    rw [← hl, e1] at e2
    have hNP := named_graph hL hP
    have hNQ := named_graph hO hQ
    have e3 : namedL L P = namedL (otherL L L.length) Q := code_inj hNP hNQ (by rw [namedL_length, namedL_length, hol]) e2
    have h2 := linked_named h1 hQ
    rw [← e3] at h2
    have hi := inv_names hP
    have h3 := linked_named h2 (P := invP L.length P) (by rw [namedL_length]; exact hi)
    rw [named_inv hL hP] at h3
    exact h3
end Go.Proofs.YtcemhepojjbcgaaDoor
