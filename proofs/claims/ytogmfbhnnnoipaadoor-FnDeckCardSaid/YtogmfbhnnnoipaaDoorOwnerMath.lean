/- What DeckBack answers: mathematics. -/
import Derived.Test.YtogmfbhnnnoipaaDoorDeckBackMath
import Derived.Test.YtogmfbhnnnoipaaDoorDeckOfFn
namespace Go.Proofs.YtogmfbhnnnoipaaDoor
open Go Go.RowKit
set_option linter.unusedVariables false
set_option maxRecDepth 100000

/-- A graph of n nodes has the deck. -/
def HasDeck (n : Nat) (d : List Int) (c : Nat) : Prop := c < 2 ^ (rows n).length ∧ deckL (codeG n c) = d
open Classical in
/-- What DeckBack answers for a list that may be a deck. -/
noncomputable def ownSaid (n : Nat) (d : List Int) : Nat × Bool := if h : ∃ c, HasDeck n d c then (leastL (codeG n h.choose), true) else (0, false)
theorem ownSaid_yes {n : Nat} (h3 : 3 ≤ n) (h5 : n ≤ 5) {d : List Int} {c : Nat} (h : HasDeck n d c) : ownSaid n d = (leastL (codeG n c), true) := by
  have he : ∃ c, HasDeck n d c := ⟨c, h⟩
  unfold ownSaid
  rw [dif_pos he]
  have h1 := he.choose_spec
  rw [(back_facts h3 h5 h.1).1 he.choose h1.1 (h1.2.trans h.2.symm)]
theorem ownSaid_no {n : Nat} {d : List Int} (h : ¬ ∃ c, HasDeck n d c) : ownSaid n d = (0, false) := by
  unfold ownSaid
  rw [dif_neg h]
theorem hasDeck_E {n : Nat} (h3 : 3 ≤ n) (h5 : n ≤ 5) {d : List Int} {c : Nat} (h : HasDeck n d c) : deckE n d = (edgesN (codeG n c), true) := by
  have h1 := deck_E (codeG_graph (n := n) c (by omega) (by omega)) (by rw [codeG_length]; exact h3)
  rw [codeG_length, h.2] at h1
  exact h1
theorem rows_many : ∀ m : Fin 6, (rows m.val).length = m.val * (m.val - 1) / 2 ∧ (rows (m.val + 1)).length = m.val * (m.val - 1) / 2 + m.val := by decide +kernel
theorem cand_lt {m d s : Nat} (hm : m ≤ 5) (hd : d < codes m) (hs : s < 2 ^ m) : d ||| s * 2 ^ (m * (m - 1) / 2) < 2 ^ (rows (m + 1)).length := by
  have h : (rows (m + 1)).length = m * (m - 1) / 2 + m := (rows_many ⟨m, by omega⟩).2
  rw [h]
  refine Nat.or_lt_two_pow ?_ ?_
  · exact Nat.lt_of_lt_of_le hd (Nat.pow_le_pow_right (by omega) (by omega))
  · rw [Nat.pow_add, Nat.mul_comm]
    exact Nat.mul_lt_mul_of_pos_left hs (Nat.two_pow_pos _)
/-- If there is a graph with the deck, one of the candidates has it. -/
theorem has_cand {m : Nat} (h2 : 2 ≤ m) (h4 : m ≤ 4) {d : List Int} (h : ∃ c, HasDeck (m + 1) d c) : ∃ s, s < 2 ^ m ∧ deckL (codeG (m + 1) (cardN d 0 ||| s * 2 ^ (m * (m - 1) / 2))) = d := by
  obtain ⟨c, hc, hd⟩ := h
  obtain ⟨_, _, _, s, hs, e⟩ := back_facts (n := m + 1) (by omega) (by omega) hc
  rw [Nat.add_sub_cancel] at hs e
  rw [(rows_many ⟨m, by omega⟩).1, hd] at e
  exact ⟨s, hs, e⟩
def TwoB (w : World) (p : Nat × Bool) (e : Ending) (w' : World) : Prop := e = .returned (.tuple #[.int .i64 (p.1 : Nat), .bool p.2]) ∧ Below w.heap.size w w'

end Go.Proofs.YtogmfbhnnnoipaaDoor
