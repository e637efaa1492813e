/- Decks as lists of numbers: what is one, the sum of its edges. Plain mathematics, no condition. -/
import Derived.Test.YtcemhepojjbcgaaDoorBaseL
import Derived.Test.YtcemhepojjbcgaaDoorBaseE
namespace Go.Proofs.YtcemhepojjbcgaaDoor
open Go Go.RowKit
set_option linter.unusedVariables false

/-- A code of a card. -/
def CardAt (n : Nat) (L : List Int) (k : Nat) : Prop := 0 ≤ L[k]?.getD 0 ∧ L[k]?.getD 0 < (codes (n - 1) : Int)
instance (n : Nat) (L : List Int) (k : Nat) : Decidable (CardAt n L k) := by unfold CardAt; exact inferInstance
def cardN (L : List Int) (k : Nat) : Nat := (L[k]?.getD 0).toNat
theorem cardN_int {n : Nat} {L : List Int} {k : Nat} (h : CardAt n L k) : L[k]?.getD 0 = ((cardN L k : Nat) : Int) := by unfold cardN; have := h.1; omega
theorem cardN_lt {n : Nat} {L : List Int} {k : Nat} (h : CardAt n L k) (hn : n ≤ 6) : cardN L k < 1024 := by
  have h1 : codes (n - 1) ≤ 1024 := by
    have : ∀ m ≤ 5, codes m ≤ 1024 := by decide
    exact this (n - 1) (by omega)
  have := h.2
  have := h.1
  unfold cardN
  omega
/-- A list as the deck of a graph of n nodes. -/
def IsDeck (n : Nat) (L : List Int) : Prop := 3 ≤ n ∧ n ≤ 6 ∧ L.length = n ∧ ∀ k, k < n → CardAt n L k
/-- The edges of the first cards. -/
def dsumTo (L : List Int) : Nat → Nat
  | 0 => 0
  | k + 1 => dsumTo L k + pcf 15 (cardN L k)
theorem dsumTo_le (L : List Int) (k : Nat) : dsumTo L k ≤ 15 * k := by
  induction k with
  | zero => exact Nat.le_refl _
  | succ k ih => show dsumTo L k + pcf 15 (cardN L k) ≤ 15 * (k + 1); have := pcf_le 15 (cardN L k); omega
/-- What the edges of a deck tell. -/
def deckE (n : Nat) (L : List Int) : Nat × Bool := if dsumTo L n % (n - 2) = 0 then (dsumTo L n / (n - 2), true) else (0, false)
open Classical in
/-- What DeckEdges answers. -/
noncomputable def deSaid (n : Int) (L : List Int) : Nat × Bool := if n = (n.toNat : Int) ∧ IsDeck n.toNat L then deckE n.toNat L else (0, false)
theorem deSaid_no {n : Int} {L : List Int} (h : ¬ (n = (n.toNat : Int) ∧ IsDeck n.toNat L)) : deSaid n L = (0, false) := if_neg h
theorem deSaid_yes {n : Nat} {L : List Int} (h : IsDeck n L) : deSaid (n : Int) L = deckE n L := by
  unfold deSaid
  rw [if_pos ⟨by simp, by simpa using h⟩]
  simp
theorem deSaid_bad {n : Nat} {L : List Int} (h : ¬ IsDeck n L) : deSaid (n : Int) L = (0, false) := deSaid_no (by simpa using h)
end Go.Proofs.YtcemhepojjbcgaaDoor
