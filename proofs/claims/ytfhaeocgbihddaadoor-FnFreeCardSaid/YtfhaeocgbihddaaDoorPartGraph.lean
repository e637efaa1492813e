/- The graph of some nodes is a graph; the cards of a deck. Plain mathematics, no condition. -/
import Derived.Test.YtfhaeocgbihddaaDoorUpN
import Derived.Test.YtfhaeocgbihddaaDoorBaseS
import Derived.Test.YtfhaeocgbihddaaDoorSortL
namespace Go.Proofs.YtfhaeocgbihddaaDoor
open Go Go.RowKit
set_option linter.unusedVariables false
set_option maxRecDepth 100000

/-- The graph of the nodes of a set. -/
def partG (L : List Int) (s : Nat) : List Int := ints (lrun (nodesL s).length id (keptIn L (nodesL s) (rows (nodesL s).length)))
theorem partG_length (L : List Int) (s : Nat) : (partG L s).length = (nodesL s).length := by unfold partG; rw [ints_length, lrun_length]
theorem partG_eq {L : List Int} (hg : IsGraph L) {s : Nat} (hs : s < 2 ^ L.length) : partG L s = ints (partTo L (nodesL s) (nodesL s).length) := by
  unfold partG
  rw [part_eq L hg (nodesL s) (nodes_lt hs)]
theorem partG_bt {L : List Int} (hg : IsGraph L) {s : Nat} (hs : s < 2 ^ L.length) (i j : Nat) : bt (partG L s) i j = 1 ↔ i < (nodesL s).length ∧ j < (nodesL s).length ∧ bt L (at_ (nodesL s) i) (at_ (nodesL s) j) = 1 := by
  rw [partG_eq hg hs, bt_ints, partTo_bit]
theorem bt_zero_of {L : List Int} {i j : Nat} (h : ¬ bt L i j = 1) : bt L i j = 0 := by have := bt_le L i j; omega
theorem partG_graph {L : List Int} (hg : IsGraph L) {s : Nat} (hs : s < 2 ^ L.length) (h1 : 1 ≤ (nodesL s).length) : IsGraph (partG L s) := by
  have hl := partG_length L s
  have hn6 := nodes_length s
  have hat : ∀ i, i < (nodesL s).length → at_ (nodesL s) i < L.length := fun i hi => at_lt (nodes_lt hs) hi
  refine ⟨by rw [hl]; exact h1, by rw [hl]; exact hn6, fun v hv => ?_⟩
  rw [hl] at hv
  refine ⟨?_, ?_, fun w hw => ?_⟩
  · unfold InR
    rw [hl]
    have e : (partG L s)[v]?.getD 0 = ((partTo L (nodesL s) (nodesL s).length)[v]?.getD 0 : Nat) := by rw [partG_eq hg hs, ints_get]
    rw [e]
    refine ⟨by omega, ?_⟩
    have h1 : (partTo L (nodesL s) (nodesL s).length)[v]?.getD 0 < 2 ^ (nodesL s).length := by
      refine Nat.lt_pow_two_of_testBit _ fun j hj => ?_
      cases e : ((partTo L (nodesL s) (nodesL s).length)[v]?.getD 0).testBit j with
      | false => rfl
      | true =>
        have h2 := (partTo_bit L (nodesL s) v j).1 e
        omega
    omega
  · refine bt_zero_of fun h3 => ?_
    have h4 := (partG_bt hg hs v v).1 h3
    have := (hg.2.2 _ (hat v hv)).2.1
    omega
  · refine bt_eq ?_
    rw [partG_bt hg hs, partG_bt hg hs]
    constructor
    · rintro ⟨a, b, c⟩; exact ⟨b, a, (bt_sym hg (hat _ b) (hat _ a)).trans c⟩
    · rintro ⟨a, b, c⟩; exact ⟨b, a, (bt_sym hg (hat _ b) (hat _ a)).trans c⟩

/-- The set of all nodes but one. -/
def dropSet (n v : Nat) : Nat := less (2 ^ n - 1) (2 ^ v)
theorem dropSet_facts : ∀ n : Fin 7, ∀ v : Fin 6, v.val < n.val → dropSet n.val v.val < 2 ^ n.val ∧ (nodesL (dropSet n.val v.val)).length = n.val - 1 := by decide +kernel
theorem dropSet_lt {n v : Nat} (hn : n ≤ 6) (hv : v < n) : dropSet n v < 2 ^ n := (dropSet_facts ⟨n, by omega⟩ ⟨v, by omega⟩ hv).1
theorem dropSet_len {n v : Nat} (hn : n ≤ 6) (hv : v < n) : (nodesL (dropSet n v)).length = n - 1 := (dropSet_facts ⟨n, by omega⟩ ⟨v, by omega⟩ hv).2
/-- The graph without a node. -/
def dropG (L : List Int) (v : Nat) : List Int := partG L (dropSet L.length v)
theorem dropG_length {L : List Int} (hg : IsGraph L) {v : Nat} (hv : v < L.length) : (dropG L v).length = L.length - 1 := by
  unfold dropG; rw [partG_length, dropSet_len hg.2.1 hv]
theorem dropG_graph {L : List Int} (hg : IsGraph L) (h2 : 2 ≤ L.length) {v : Nat} (hv : v < L.length) : IsGraph (dropG L v) :=
  partG_graph hg (dropSet_lt hg.2.1 hv) (by rw [dropSet_len hg.2.1 hv]; omega)
/-- A card: the least code of the graph without a node. -/
def cardOf (L : List Int) (v : Nat) : Nat := leastL (dropG L v)
def deckTo (L : List Int) (k : Nat) : List Int := ints ((List.range k).map (cardOf L))
theorem deckTo_zero (L : List Int) : deckTo L 0 = [] := rfl
theorem deckTo_succ (L : List Int) (k : Nat) : deckTo L (k + 1) = deckTo L k ++ [((cardOf L k : Nat) : Int)] := by simp [deckTo, List.range_succ, ints]
theorem deckTo_length (L : List Int) (k : Nat) : (deckTo L k).length = k := by simp [deckTo, ints]
/-- The deck of a graph. -/
def deckL (L : List Int) : List Int := sortL (deckTo L L.length)
theorem deckL_length (L : List Int) : (deckL L).length = L.length := by unfold deckL; rw [sortL_length, deckTo_length]
/-- Codes are small. -/
theorem least_small {L : List Int} (hg : IsGraph L) : leastL L < 32768 := by
  obtain ⟨P, hP, e⟩ := least_is hg
  rw [e]
  exact crun_small _ _ (rows_length _ (by rw [namedL_length]; exact hg.2.1))
theorem least_lt {L : List Int} (hg : IsGraph L) : leastL L < 2 ^ (rows L.length).length := by
  obtain ⟨P, hP, e⟩ := least_is hg
  rw [e]
  have h := crun_lt (namedL L P) (rows (namedL L P).length)
  rw [namedL_length] at h
  unfold codeOf
  rw [namedL_length]
  exact h
end Go.Proofs.YtfhaeocgbihddaaDoor
