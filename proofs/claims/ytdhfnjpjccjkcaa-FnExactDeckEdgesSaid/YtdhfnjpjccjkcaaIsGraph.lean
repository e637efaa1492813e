/- What a graph is, as plain mathematics; what the loops' operations yield. No condition. -/
import Derived.Test.YtdhfnjpjccjkcaaMath
namespace Go.Proofs.Ytdhfnjpjccjkcaa
open Go Go.RowKit

/-- The number at a place, as a natural number; a bit of it. -/
def ent (L : List Int) (v : Nat) : Nat := (L[v]?.getD 0).toNat
def bt (L : List Int) (v w : Nat) : Nat := ent L v / 2 ^ w % 2
def InR (L : List Int) (v : Nat) : Prop := 0 ≤ L[v]?.getD 0 ∧ L[v]?.getD 0 < ((2 ^ L.length : Nat) : Int)
def RowOk (L : List Int) (v : Nat) : Prop := InR L v ∧ bt L v v = 0 ∧ ∀ w, w < v → bt L v w = bt L w v
def IsGraph (L : List Int) : Prop := 1 ≤ L.length ∧ L.length ≤ 6 ∧ ∀ v, v < L.length → RowOk L v

theorem ent_int {L : List Int} {v : Nat} (h : InR L v) : L[v]?.getD 0 = ((ent L v : Nat) : Int) := by unfold ent; unfold InR at h; omega
theorem ent_lt {L : List Int} {v : Nat} (h : InR L v) : ent L v < 2 ^ L.length := by unfold ent; unfold InR at h; omega
theorem two_le {n : Nat} (hn : n ≤ 6) : 2 ^ n ≤ 64 := pow_le n 6 hn
theorem two_pos (n : Nat) : 1 ≤ 2 ^ n := Nat.one_le_two_pow

/-- 1 << n, and one less, however the walk spells them. -/
theorem shl_facts (n : Nat) (hn : n ≤ 6) : ∃ P Q : Nat, P = 2 ^ n ∧ Q + 1 = P ∧ P ≤ 64 ∧ wrap64 ((2 : Int) ^ n) = (P : Int) ∧ IntKind.i64.wrap ((2 : Int) ^ n) = (P : Int) ∧ (P : Int) - 1 = (Q : Int) ∧ IntKind.i64.wrap ((P : Int) - 1) = (Q : Int) ∧ IntKind.i64.wrap (Q : Int) = (Q : Int) := by
  have h1 := two_le hn
  have h2 := two_pos n
  have h3 := wrap_pow n (by omega)
  have h4 : IntKind.i64.wrap ((2 : Int) ^ n) = wrap64 ((2 : Int) ^ n) := by rw [IntKind.wrap_i64]; unfold wrap64; rfl
  obtain ⟨P, hP⟩ : ∃ P, P = 2 ^ n := ⟨_, rfl⟩
  rw [← hP] at h1 h2 h3
  refine ⟨P, P - 1, hP, by omega, h1, h3, by rw [h4, h3], by omega, ?_, ?_⟩ <;> rw [IntKind.wrap_i64] <;> omega
/-- A bit of a small number. -/
theorem and_facts (x k : Nat) (hx : x < 1048576) : ∃ b : Nat, b = x / 2 ^ k % 2 ∧ b ≤ 1 ∧ bits .and .i64 ((x : Int) / 2 ^ k) 1 = (b : Int) :=
  ⟨x / 2 ^ k % 2, rfl, by omega, bit_of x k hx⟩
end Go.Proofs.Ytdhfnjpjccjkcaa
