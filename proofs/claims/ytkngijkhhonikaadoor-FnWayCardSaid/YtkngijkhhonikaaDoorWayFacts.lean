/- Ways in trees: what is decided of all of them, and the ways as lists. -/
import Derived.Test.YtkngijkhhonikaaDoorWayTabA
import Derived.Test.YtkngijkhhonikaaDoorWayTabB
import Derived.Test.YtkngijkhhonikaaDoorWayTabC
import Derived.Test.YtkngijkhhonikaaDoorWayTabD
namespace Go.Proofs.YtkngijkhhonikaaDoor
open Go Go.RowKit
set_option linter.unusedVariables false
set_option maxRecDepth 100000

theorem way_table {L : List Int} (h : IsTree L) : wayC L = true := by_trees wayC_1 wayC_2 wayC_3 wayC_4 wayC_5 wayC_60 wayC_61 wayC_62 wayC_63 wayC_64 wayC_65 wayC_66 wayC_67 h
/-- The distance to b. -/
def dB (L : List Int) (b w : Nat) : Nat := (stepsT L b)[w]?.getD 0
def stepQ (L : List Int) (b x v : Nat) : Bool := bt L x v == 1 && dB L b v + 1 == dB L b x
def stepW (L : List Int) (b x : Nat) : Nat := ((List.range L.length).find? (stepQ L b x)).getD x
def itW (L : List Int) (b a : Nat) : Nat → Nat
  | 0 => a
  | k + 1 => stepW L b (itW L b a k)
def wayT (L : List Int) (a b : Nat) : List Nat := (List.range (dB L b a + 1)).map (itW L b a)
theorem way_pair {L : List Int} (h : IsTree L) {x b : Nat} (hx : x < L.length) (hb : b < L.length) (hne : x ≠ b) :
    (∀ v, v < L.length → bt L x v = 1 → (beyT L x v / 2 ^ b % 2 = 1 ↔ dB L b v + 1 = dB L b x)) ∧ ∃ v, v < L.length ∧ stepQ L b x v = true := by
  have ht := way_table h
  unfold wayC wayC2 at ht
  rw [List.all_eq_true] at ht
  have h1 := ht x (List.mem_range.2 hx)
  rw [List.all_eq_true] at h1
  have h2 := h1 b (List.mem_range.2 hb)
  rw [Bool.or_eq_true] at h2
  have h3 : wayB L ((List.range L.length).map (stepsT L)) L.length x b = true := by
    rcases h2 with h2 | h2
    · exact absurd (Nat.eq_of_beq_eq_true h2) hne
    · exact h2
  have hD : ∀ w, ddT ((List.range L.length).map (stepsT L)) b w = dB L b w := fun w => by
    unfold ddT dB
    rw [List.getElem?_map, List.getElem?_range hb]
    rfl
  unfold wayB at h3
  rw [Bool.and_eq_true, List.all_eq_true, List.any_eq_true] at h3
  obtain ⟨hA, v, hv, hB⟩ := h3
  refine ⟨fun u hu hbu => ?_, v, List.mem_range.1 hv, ?_⟩
  · have h4 := hA u (List.mem_range.2 hu)
    rw [hD, hD, hbu, Nat.beq_refl, Bool.not_true, Bool.false_or, beq_iff_eq] at h4
    constructor
    · intro h5
      rw [h5, Nat.beq_refl] at h4
      exact Nat.eq_of_beq_eq_true h4.symm
    · intro h5
      rw [h5, Nat.beq_refl] at h4
      exact Nat.eq_of_beq_eq_true h4
  · rw [hD, hD, Bool.and_eq_true] at hB
    unfold stepQ
    rw [Bool.and_eq_true, beq_iff_eq, beq_iff_eq]
    exact ⟨Nat.eq_of_beq_eq_true hB.1, Nat.eq_of_beq_eq_true hB.2⟩
theorem nxT_has {L : List Int} {m i : Nat} (h : m.testBit i = true) (j : Nat) : (nxT L m j).testBit i = true := by
  induction j with
  | zero => exact h
  | succ j ih =>
    simp only [nxT]
    split
    · rw [Nat.testBit_or, ih]; rfl
    · exact ih
theorem metT_has (L : List Int) (b k : Nat) : (metT L b k).testBit b = true := by
  induction k with
  | zero => show (2 ^ b).testBit b = true; simp
  | succ k ih => exact nxT_has ih _
theorem dB_self {L : List Int} {b : Nat} (hb : b < L.length) : dB L b b = 0 := by
  have h : ∀ k, otT L b k b = 0 := fun k => by
    induction k with
    | zero => rfl
    | succ k ih =>
      simp only [otT]
      have h1 := metT_has L b k
      rw [Nat.testBit_eq_decide_div_mod_eq, decide_eq_true_eq] at h1
      rw [if_neg (by omega)]
      exact ih
  unfold dB stepsT
  rw [List.getElem?_map, List.getElem?_range hb]
  exact h _
theorem stepW_is {L : List Int} (h : IsTree L) {x b : Nat} (hx : x < L.length) (hb : b < L.length) (hne : x ≠ b) : stepW L b x < L.length ∧ stepQ L b x (stepW L b x) = true ∧ dB L b (stepW L b x) + 1 = dB L b x := by
  obtain ⟨_, v, hv, hq⟩ := way_pair h hx hb hne
  have hs : (List.range L.length).find? (stepQ L b x) ≠ none := fun e => by
    rw [List.find?_eq_none] at e
    exact e v (List.mem_range.2 hv) hq
  obtain ⟨u, hu⟩ := Option.ne_none_iff_exists'.1 hs
  have e : stepW L b x = u := by unfold stepW; rw [hu]; rfl
  rw [e]
  have h1 := List.find?_some hu
  have h2 := List.mem_range.1 (List.mem_of_find?_eq_some hu)
  refine ⟨h2, h1, ?_⟩
  unfold stepQ at h1
  rw [Bool.and_eq_true, beq_iff_eq, beq_iff_eq] at h1
  exact h1.2
theorem stepW_first {L : List Int} {x b u : Nat} (hu : u < L.length) (hq : stepQ L b x u = true) (hno : ∀ v, v < u → ¬ stepQ L b x v = true) : stepW L b x = u := by
  unfold stepW
  have : (List.range L.length).find? (stepQ L b x) = some u := by
    rw [List.find?_eq_some_iff_getElem]
    exact ⟨hq, u, by simpa using hu, by simp, fun j hj => by simp only [List.getElem_range]; simpa using hno j hj⟩
  rw [this]; rfl
theorem it_facts {L : List Int} (h : IsTree L) {a b : Nat} (ha : a < L.length) (hb : b < L.length) (k : Nat) (hk : k ≤ dB L b a) : itW L b a k < L.length ∧ dB L b (itW L b a k) + k = dB L b a := by
  induction k with
  | zero => exact ⟨ha, rfl⟩
  | succ k ih =>
    obtain ⟨h1, h2⟩ := ih (by omega)
    have hne : itW L b a k ≠ b := fun e => by rw [e, dB_self hb] at h2; omega
    have h3 := stepW_is h h1 hb hne
    exact ⟨h3.1, by show dB L b (stepW L b (itW L b a k)) + (k + 1) = dB L b a; omega⟩
theorem it_end {L : List Int} (h : IsTree L) {a b : Nat} (ha : a < L.length) (hb : b < L.length) (k : Nat) (hk : k ≤ dB L b a) : itW L b a k = b ↔ k = dB L b a := by
  obtain ⟨h1, h2⟩ := it_facts h ha hb k hk
  constructor
  · intro e; rw [e, dB_self hb] at h2; omega
  · intro e
    rcases Nat.decEq (itW L b a k) b with hne | he
    · have := (stepW_is h h1 hb hne).2.2; omega
    · exact he
theorem wayTo_succ (L : List Int) (a b k : Nat) : (List.range (k + 1)).map (itW L b a) = (List.range k).map (itW L b a) ++ [itW L b a k] := by rw [List.range_succ, List.map_append]; rfl
end Go.Proofs.YtkngijkhhonikaaDoor
