/- Lists of lists while others are written. -/
import Derived.Test.YtpegeleidkfpbaaDoorHelpSS
namespace Go.Proofs.YtpegeleidkfpbaaDoor
open Go Go.RowKit
set_option linter.unusedVariables false
set_option maxRecDepth 100000

/-- How calls that make a list of lists, and tell a bool, end. -/
def ToldR (w : World) (T : List (List Int)) (ok : Bool) (e : Ending) (w' : World) : Prop := ∃ v, e = .returned (.tuple #[v, .bool ok]) ∧ R2 w' w.heap.size v T ∧ Below w.heap.size w w'
/-- A list of lists whose blocks all lie below S. -/
def R2S (w : World) (B S : Nat) (v : Value) (T : List (List Int)) : Prop := ∃ vs : List Value, VRow 22 w B v vs ∧ vs.length = T.length ∧ (∀ k, k < T.length → Row w B (vs[k]?.getD undef) (T[k]?.getD [])) ∧ (∀ i j g, i < T.length → j < T.length → i ≠ j → (vs[i]?.getD undef).ownBlock = some g → (vs[j]?.getD undef).ownBlock ≠ some g) ∧ (∀ b, v.ownBlock = some b → b < S) ∧ ∀ k, k < T.length → ∀ b, (vs[k]?.getD undef).ownBlock = some b → b < S
theorem R2.s {w : World} {B : Nat} {v : Value} {T : List (List Int)} (h : R2 w B v T) : R2S w B w.heap.size v T := by
  have hl := h.lt
  obtain ⟨vs, h1, h2, h3, h4⟩ := h
  exact ⟨vs, h1, h2, h3, h4, fun b e => (hl b e).2, fun k hk b e => ((h3 k hk).lt b e).2⟩
theorem R2S.r2 {w : World} {B S : Nat} {v : Value} {T : List (List Int)} (h : R2S w B S v T) : R2 w B v T := by
  obtain ⟨vs, h1, h2, h3, h4, _⟩ := h
  exact ⟨vs, h1, h2, h3, h4⟩
theorem R2S.step {w w' : World} {B S : Nat} {v : Value} {T : List (List Int)} (h : R2S w B S v T) (hw : Below S w w') : R2S w' B S v T := by
  obtain ⟨vs, h1, h2, h3, h4, h5, h6⟩ := h
  have keep : ∀ {t : TypeId} {u : Value} {n : Nat} {xs : List Value}, w.ownsRow B t 1 u n xs → (∀ b, u.ownBlock = some b → b < S) → w'.ownsRow B t 1 u n xs := fun {t u n xs} hu hlt => by
    obtain ⟨q1, q2⟩ := hu
    refine ⟨q1, ?_⟩
    rcases q2 with q2 | ⟨g, cap, cur, a1, a2, a3, a4⟩
    · exact .inl q2
    · exact .inr ⟨g, cap, cur, a1, a2, (hw.block g (hlt g (by rw [a1]; rfl))).trans a3, a4⟩
  exact ⟨vs, keep h1 h5, h2, fun k hk => keep (h3 k hk) (h6 k hk), h4, h5, h6⟩
theorem R2.keep {w w' : World} {B : Nat} {v : Value} {T : List (List Int)} {row : Option Nat} (h : R2 w B v T) (hg : w.grownBy w' row) (hr : ∀ b, row = some b → b < B) : R2 w' B v T := by
  have hl := h.lt
  obtain ⟨vs, h1, h2, h3, h4⟩ := h
  refine ⟨vs, World.ownsRow.kept h1 hg ?_, h2, fun k hk => World.ownsRow.kept (h3 k hk) hg ?_, h4⟩
  · cases e : v.ownBlock with
    | none => exact .inl rfl
    | some b => exact .inr fun e2 => by have h1 := (hl b e).1; have h2 := hr b e2.symm; omega
  · cases e : (vs[k]?.getD undef).ownBlock with
    | none => exact .inl rfl
    | some b => exact .inr fun e2 => by have h1 := ((h3 k hk).lt b e).1; have h2 := hr b e2.symm; omega
theorem R2.drewN {w : World} {B : Nat} {v : Value} {T : List (List Int)} (h : R2 w B v T) (d : Nat) : R2 (w.drewN d) B v T := h.below (below_drewN (Below.refl w.heap.size w) d)
theorem R2S.drewN {w : World} {B S : Nat} {v : Value} {T : List (List Int)} (h : R2S w B S v T) (d : Nat) : R2S (w.drewN d) B S v T := h.step (below_drewN (Below.refl S w) d)
end Go.Proofs.YtpegeleidkfpbaaDoor
