/- Degrees: their sum, and those of the other graph. Plain mathematics, no condition. -/
import Derived.Test.YtneglpklkmoclaaDoorBaseG
import Derived.Test.YtneglpklkmoclaaDoorOtherGraph
import Derived.Test.YtneglpklkmoclaaDoorDegL
namespace Go.Proofs.YtneglpklkmoclaaDoor
open Go Go.RowKit
set_option linter.unusedVariables false
set_option maxRecDepth 100000

theorem filter_bits (L : List Int) : ∀ ps : List (Nat × Nat), (edgesIn L ps).length = (ps.map fun e => bt L e.1 e.2).sum
  | [] => rfl
  | e :: ps => by
    have ih := filter_bits L ps
    have hb := bt_le L e.1 e.2
    unfold edgesIn at ih ⊢
    rw [List.filter_cons, List.map_cons, List.sum_cons, ← ih]
    by_cases h : bt L e.1 e.2 = 1
    · rw [if_pos (by simp [h]), List.length_cons, h]; omega
    · rw [if_neg (by simp [h])]; omega
theorem cnt_bits (L : List Int) (i : Nat) : cnt (ent L i) = bt L i 0 + bt L i 1 + bt L i 2 + bt L i 3 + bt L i 4 + bt L i 5 := by
  unfold cnt bt
  simp
theorem bt_symD {L : List Int} (hg : IsGraph L) {a b : Nat} (ha : a < L.length) (hb : b < L.length) : bt L a b = bt L b a := by
  rcases Nat.lt_trichotomy a b with h | h | h
  · exact ((hg.2.2 b hb).2.2 a h).symm
  · subst h; rfl
  · exact (hg.2.2 a ha).2.2 b h
theorem bt_far {L : List Int} (hg : IsGraph L) {a b : Nat} (ha : a < L.length) (hb : L.length ≤ b) : bt L a b = 0 := by
  have h := ent_lt (hg.2.2 a ha).1
  unfold bt
  rw [Nat.div_eq_of_lt (Nat.lt_of_lt_of_le h (Nat.pow_le_pow_right (by omega) hb))]
theorem deg_sum {L : List Int} (hg : IsGraph L) : (degL L L.length).sum = ((2 * edgesN L : Nat) : Int) := by
  have h6 := hg.2.1
  have h1 := hg.1
  rw [edges_in h6, filter_bits]
  have hn : L.length = 1 ∨ L.length = 2 ∨ L.length = 3 ∨ L.length = 4 ∨ L.length = 5 ∨ L.length = 6 := by omega
  have sy := fun a b ha hb => bt_symD hg (a := a) (b := b) ha hb
  have far := fun a b ha hb => bt_far hg (a := a) (b := b) ha hb
  have dg := fun a ha => (hg.2.2 a ha).2.1
  rcases hn with hn | hn | hn | hn | hn | hn
  all_goals
    rw [hn] at sy far dg ⊢
    have r1 : rows 1 = [] := by decide
    have r2 : rows 2 = [(0, 1)] := by decide
    have r3 : rows 3 = [(0, 1), (0, 2), (1, 2)] := by decide
    have r4 : rows 4 = [(0, 1), (0, 2), (1, 2), (0, 3), (1, 3), (2, 3)] := by decide
    have r5 : rows 5 = [(0, 1), (0, 2), (1, 2), (0, 3), (1, 3), (2, 3), (0, 4), (1, 4), (2, 4), (3, 4)] := by decide
    have r6 : rows 6 = [(0, 1), (0, 2), (1, 2), (0, 3), (1, 3), (2, 3), (0, 4), (1, 4), (2, 4), (3, 4), (0, 5), (1, 5), (2, 5), (3, 5), (4, 5)] := by decide
    simp only [degL, List.range_succ, List.range_zero, List.nil_append, List.cons_append, List.map_cons, List.map_nil, List.sum_cons, List.sum_nil, cnt_bits, r1, r2, r3, r4, r5, r6]
  · rw [dg 0 (by omega), far 0 1 (by omega) (by omega), far 0 2 (by omega) (by omega), far 0 3 (by omega) (by omega), far 0 4 (by omega) (by omega), far 0 5 (by omega) (by omega)]
    rfl
  · have := sy 0 1 (by omega) (by omega)
    rw [dg 0 (by omega), dg 1 (by omega), far 0 2 (by omega) (by omega), far 0 3 (by omega) (by omega), far 0 4 (by omega) (by omega), far 0 5 (by omega) (by omega), far 1 2 (by omega) (by omega), far 1 3 (by omega) (by omega), far 1 4 (by omega) (by omega), far 1 5 (by omega) (by omega)]
    omega
  · have := sy 0 1 (by omega) (by omega); have := sy 0 2 (by omega) (by omega); have := sy 1 2 (by omega) (by omega)
    rw [dg 0 (by omega), dg 1 (by omega), dg 2 (by omega), far 0 3 (by omega) (by omega), far 0 4 (by omega) (by omega), far 0 5 (by omega) (by omega), far 1 3 (by omega) (by omega), far 1 4 (by omega) (by omega), far 1 5 (by omega) (by omega), far 2 3 (by omega) (by omega), far 2 4 (by omega) (by omega), far 2 5 (by omega) (by omega)]
    omega
  · have := sy 0 1 (by omega) (by omega); have := sy 0 2 (by omega) (by omega); have := sy 1 2 (by omega) (by omega); have := sy 0 3 (by omega) (by omega); have := sy 1 3 (by omega) (by omega); have := sy 2 3 (by omega) (by omega)
    rw [dg 0 (by omega), dg 1 (by omega), dg 2 (by omega), dg 3 (by omega), far 0 4 (by omega) (by omega), far 0 5 (by omega) (by omega), far 1 4 (by omega) (by omega), far 1 5 (by omega) (by omega), far 2 4 (by omega) (by omega), far 2 5 (by omega) (by omega), far 3 4 (by omega) (by omega), far 3 5 (by omega) (by omega)]
    omega
  · have := sy 0 1 (by omega) (by omega); have := sy 0 2 (by omega) (by omega); have := sy 1 2 (by omega) (by omega); have := sy 0 3 (by omega) (by omega); have := sy 1 3 (by omega) (by omega); have := sy 2 3 (by omega) (by omega); have := sy 0 4 (by omega) (by omega); have := sy 1 4 (by omega) (by omega); have := sy 2 4 (by omega) (by omega); have := sy 3 4 (by omega) (by omega)
    rw [dg 0 (by omega), dg 1 (by omega), dg 2 (by omega), dg 3 (by omega), dg 4 (by omega), far 0 5 (by omega) (by omega), far 1 5 (by omega) (by omega), far 2 5 (by omega) (by omega), far 3 5 (by omega) (by omega), far 4 5 (by omega) (by omega)]
    omega
  · have := sy 0 1 (by omega) (by omega); have := sy 0 2 (by omega) (by omega); have := sy 1 2 (by omega) (by omega); have := sy 0 3 (by omega) (by omega); have := sy 1 3 (by omega) (by omega); have := sy 2 3 (by omega) (by omega); have := sy 0 4 (by omega) (by omega); have := sy 1 4 (by omega) (by omega); have := sy 2 4 (by omega) (by omega); have := sy 3 4 (by omega) (by omega); have := sy 0 5 (by omega) (by omega); have := sy 1 5 (by omega) (by omega); have := sy 2 5 (by omega) (by omega); have := sy 3 5 (by omega) (by omega); have := sy 4 5 (by omega) (by omega)
    rw [dg 0 (by omega), dg 1 (by omega), dg 2 (by omega), dg 3 (by omega), dg 4 (by omega), dg 5 (by omega)]
    omega
/-- The degrees of a node in both graphs are all other nodes. -/
theorem deg_other {L : List Int} (hg : IsGraph L) {i : Nat} (hi : i < L.length) : cnt (ent L i) + cnt (ent (otherL L L.length) i) = L.length - 1 := by
  have h6 := hg.2.1
  rw [cnt_bits, cnt_bits]
  have key : ∀ j, j < L.length → bt L i j + bt (otherL L L.length) i j = if i = j then 0 else 1 := fun j hj => by
    have h3 := other_bt hg hi j
    have b1 := bt_le L i j
    have b2 := bt_le (otherL L L.length) i j
    by_cases e : i = j
    · subst e
      rw [if_pos rfl]
      have d := (hg.2.2 i hi).2.1
      have h4 : ¬ bt (otherL L L.length) i i = 1 := fun x => (h3.1 x).2.2 rfl
      omega
    · rw [if_neg e]
      by_cases hb : bt L i j = 1
      · have h4 : ¬ bt (otherL L L.length) i j = 1 := fun x => (h3.1 x).2.1 hb
        omega
      · have h4 := h3.2 ⟨hj, hb, e⟩
        omega
  have kf : ∀ j, L.length ≤ j → bt L i j + bt (otherL L L.length) i j = 0 := fun j hj => by
    have h1 := bt_far hg hi hj
    have h3 := other_bt hg hi j
    have b2 := bt_le (otherL L L.length) i j
    have h4 : ¬ bt (otherL L L.length) i j = 1 := fun x => by have := (h3.1 x).1; omega
    omega
  have k0 : ∀ j, bt L i j + bt (otherL L L.length) i j = if j < L.length then (if i = j then 0 else 1) else 0 := fun j => by
    by_cases hj : j < L.length
    · rw [if_pos hj]; exact key j hj
    · rw [if_neg hj]; exact kf j (by omega)
  have a0 := k0 0; have a1 := k0 1; have a2 := k0 2; have a3 := k0 3; have a4 := k0 4; have a5 := k0 5
  clear key kf k0
  have hn : L.length = 1 ∨ L.length = 2 ∨ L.length = 3 ∨ L.length = 4 ∨ L.length = 5 ∨ L.length = 6 := by omega
  have hii : i = 0 ∨ i = 1 ∨ i = 2 ∨ i = 3 ∨ i = 4 ∨ i = 5 := by omega
  obtain ⟨m, em⟩ : ∃ m, m = L.length := ⟨_, rfl⟩
  rw [← em] at a0 a1 a2 a3 a4 a5 hn hi h6 ⊢
  rcases hii with rfl | rfl | rfl | rfl | rfl | rfl <;> simp at a0 a1 a2 a3 a4 a5 <;> rcases hn with rfl | rfl | rfl | rfl | rfl | rfl <;> simp at a0 a1 a2 a3 a4 a5 hi ⊢ <;> omega
end Go.Proofs.YtneglpklkmoclaaDoor
