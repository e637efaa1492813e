/- append of one list to a list of lists of numbers: where it lies then; a list of lists stays while memory of others changes. -/
import Derived.Test.YtnnobbbljpaieaaDoorRowsZ
import Derived.Test.YtnnobbbljpaieaaDoorBaseA
import Derived.Test.YtnnobbbljpaieaaDoorStepMath
namespace Go.Proofs.YtnnobbbljpaieaaDoor
open Go Go.RowKit
set_option linter.unusedVariables false

theorem app_rowsZ_at {ops : Array Oper} {rest : List Oper} {o : Oper} {a : Act} {Q : Exit → Act → World → Prop} (hgd : o.guard = none) (s x : Operand)
    (ho : o.op = .call { callee := .builtin .append, args := #[s, x], argTypes := #[28, 28] }) (w : World) (B : Nat) (v y : Value) (Ls : List (List Int)) (P : List Int)
    (hs : a.eval s = v) (hx : a.eval x = .slice (some ⟨w.heap.size, 0, none⟩) 1 1) (hr : Row2Z w B v Ls) (hy : RowS w B y P) (hB : B ≤ w.heap.size) (hlen : Ls.length ≤ 1000000)
    (h : ∀ v' w', Row2Z w' B v' (Ls ++ [P]) → Below B w w' → (w.alloc (.cells #[y] 22)).grownBy w' v.ownBlock → (v'.ownBlock = v.ownBlock ∨ ∃ g, v'.ownBlock = some g ∧ w.heap.size ≤ g) → wpList Tryd.prog ops Q rest (a.put o.dst v') w') :
    wpList Tryd.prog ops Q (o :: rest) a (w.alloc (.cells #[y] 22)) := by
  obtain ⟨i0, hi, hz0, hz1, hz2⟩ := info_parts infoSlice
  obtain ⟨vs, h1, h2, h3⟩ := hr
  obtain ⟨yb, yc, ey⟩ := hy.shape
  have h1' := World.ownsRow.alloc h1 (.cells #[y] 22)
  refine wpList_append_own_at (w.alloc (.cells #[y] 22)) hgd s x 28 ho B 22 i0 (.slice none 0 0) 1 24 Tryd.underlying28 hi hz0 hz1 hz2 rfl (by decide) v Ls.length vs hs h1'
    ⟨w.heap.size, 0, none⟩ 1 1 [y] hx rfl (cell_one_new w _ _) (by rw [ey]; simp [Value.oneCell']) (by unfold maxLen; omega) (by omega) (by simp; omega) ?_
  intro v' w' hown hg hnil hat
  have hvl : vs.length = Ls.length := by have := h1.1; omega
  have keep : ∀ u xs, RowS w B u xs → RowS w' B u xs := fun u xs hu => by
    have hu' := Row.alloc hu.1 (.cells #[y] 22)
    refine ⟨World.ownsRow.kept hu' hg ?_, hu.2⟩
    rcases h1'.2 with ⟨e, _⟩ | ⟨g, cap, cur, e, _, hgb, _⟩
    · exact absurd e h2
    · rw [e]
      exact apart_t hu' hgb (by decide)
  refine h v' w' ⟨vs ++ [y], ?_, fun e => h2 (hnil.1 e).1, fun k hk => ?_⟩ (((Below.refl B w).alloc hB _).grown hg (by simp; omega) (fun r e => (World.ownsRow.lt h1 r e).1)) hg (hat.imp_right fun e => ⟨_, e, by simp⟩)
  · rw [List.length_append]; exact hown
  · rw [List.length_append, List.length_singleton] at hk
    by_cases hkl : k < Ls.length
    · rw [List.getElem?_append_left (by omega), List.getElem?_append_left hkl]
      exact keep _ _ (h3 k hkl)
    · have hkk : k = Ls.length := by omega
      subst hkk
      rw [List.getElem?_append_right (by omega), List.getElem?_append_right (Nat.le_refl _), hvl, Nat.sub_self]
      exact keep _ _ hy

theorem ownsRow_still {W w : World} {b0 : Nat} {t : TypeId} {s : Nat} {v : Value} {n : Nat} {vs : List Value} (h : W.ownsRow b0 t s v n vs) (hs : Still b0 W.heap.size W w) : w.ownsRow b0 t s v n vs := by
  obtain ⟨h0, h1⟩ := h
  refine ⟨h0, ?_⟩
  rcases h1 with h1 | ⟨g, cap, cur, a1, a2, a3, a4⟩
  · exact .inl h1
  · exact .inr ⟨g, cap, cur, a1, a2, (hs g a2 (Array.getElem?_eq_some_iff.1 a3).1).trans a3, a4⟩
theorem near_still {W w : World} {b0 : Nat} {v : Value} {Ns : List (List Int)} (h : Row2Z W b0 v Ns) (hs : Still b0 W.heap.size W w) : ∃ A c, v = .slice A Ns.length c ∧ NearSeen w A Ns := by
  obtain ⟨vs, h1, h2, h3⟩ := h
  exact Row2Z.near ⟨vs, ownsRow_still h1 hs, h2, fun k hk => ⟨ownsRow_still (h3 k hk).1 hs, (h3 k hk).2⟩⟩
theorem near_stillA {W w : World} {b0 : Nat} {A : Option Addr} {c n : Nat} {Ns : List (List Int)} (h : Row2Z W b0 (.slice A n c) Ns) (hs : Still b0 W.heap.size W w) : NearSeen w A Ns := by
  obtain ⟨A', c', e, hn⟩ := near_still h hs
  injection e with e1 e2 e3
  subst e1
  exact hn
theorem Still.low {b0 b1 : Nat} {W w w' : World} (h : Still b0 b1 W w) (hs : b1 ≤ w.heap.size) (hb : Below w.heap.size w w') : Still b0 b1 W w' := fun k hk hk1 => (hb.block k (by omega)).trans (h k hk hk1)
end Go.Proofs.YtnnobbbljpaieaaDoor
