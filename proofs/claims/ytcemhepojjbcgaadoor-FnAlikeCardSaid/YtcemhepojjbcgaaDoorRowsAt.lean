/- Append to a list of lists: where it lies then; what stays of another one. -/
import Derived.Test.YtcemhepojjbcgaaDoorBaseE
import Derived.Maps.AppendAt
namespace Go.Proofs.YtcemhepojjbcgaaDoor
open Go Go.RowKit
set_option linter.unusedVariables false

/-- append of one list to a list of lists; where it lies then. -/
theorem app_rows_at {ops : Array Oper} {rest : List Oper} {o : Oper} {a : Act} {Q : Exit → Act → World → Prop} (hgd : o.guard = none) (s x : Operand)
    (ho : o.op = .call { callee := .builtin .append, args := #[s, x], argTypes := #[51, 51] }) (w : World) (B : Nat) (v y : Value) (Ls : List (List Nat)) (P : List Nat)
    (hs : a.eval s = v) (hx : a.eval x = .slice (some ⟨w.heap.size, 0, none⟩) 1 1) (hr : Row2 w B v Ls) (hy : RowS w B y (ints P)) (hB : B ≤ w.heap.size) (hlen : Ls.length ≤ 1000000)
    (h : ∀ v' w', Row2 w' B v' (Ls ++ [P]) → Below B w w' → (w.alloc (.cells #[y] 23)).grownBy w' v.ownBlock → (v'.ownBlock = v.ownBlock ∨ ∃ g, v'.ownBlock = some g ∧ w.heap.size ≤ g) → wpList Tryd.prog ops Q rest (a.put o.dst v') w') :
    wpList Tryd.prog ops Q (o :: rest) a (w.alloc (.cells #[y] 23)) := by
  obtain ⟨i0, hi, hz0, hz1, hz2⟩ := info_parts infoSlice
  obtain ⟨vs, h1, h2, h3⟩ := hr
  obtain ⟨yb, yc, ey⟩ := hy.shape
  have h1' := World.ownsRow.alloc h1 (.cells #[y] 23)
  refine wpList_append_own_at (w.alloc (.cells #[y] 23)) hgd s x 51 ho B 23 i0 (.slice none 0 0) 1 24 Tryd.underlying51 hi hz0 hz1 hz2 rfl (by decide) v Ls.length vs hs h1'
    ⟨w.heap.size, 0, none⟩ 1 1 [y] hx rfl (cell_one_new w _ _) (by rw [ey]; simp [Value.oneCell']) (by unfold maxLen; omega) (by omega) (by simp; omega) ?_
  intro v' w' hown hg hnil hat
  have hvl : vs.length = Ls.length := by have := h1.1; omega
  have keep : ∀ u xs, RowS w B u xs → RowS w' B u xs := fun u xs hu => by
    have hu' := Row.alloc hu.1 (.cells #[y] 23)
    refine ⟨World.ownsRow.kept hu' hg ?_, hu.2⟩
    rcases h1'.2 with ⟨e, _⟩ | ⟨g, cap, cur, e, _, hgb, _⟩
    · exact absurd e h2
    · rw [e]
      exact apart_t hu' hgb (by decide)
  refine h v' w' ⟨vs ++ [y], ?_, fun e => h2 (hnil.1 e).1, fun k hk => ?_⟩ (((Below.refl B w).alloc hB _).grown hg (by simp; omega) (fun r e => (World.ownsRow.lt h1 r e).1)) hg (hat.imp_right fun e => ⟨_, e, by simp⟩)
  · rw [List.length_append]; exact hown
  · rw [List.length_append, List.length_singleton] at hk
    by_cases hkl : k < Ls.length
    · rw [List.getElem?_append_left (by omega), List.getElem?_append_left hkl]
      exact keep _ _ (h3 k hkl)
    · have hkk : k = Ls.length := by omega
      subst hkk
      rw [List.getElem?_append_right (by omega), List.getElem?_append_right (Nat.le_refl _), hvl, Nat.sub_self]
      exact keep _ _ hy
/-- A list of lists stays while another one grows. -/
theorem Row2.kept {w w' : World} {B b cap n : Nat} {Ls : List (List Nat)} {v : Value} (h : Row2 w B (.slice (some ⟨b, 0, none⟩) n cap) Ls) {y : Value} (hv : v.ownBlock ≠ some b) (ht : v.ownBlock = none ∨ ∃ g cur, v.ownBlock = some g ∧ w.heap[g]? = some (.cells cur 23)) (hg : (w.alloc (.cells #[y] 23)).grownBy w' v.ownBlock) :
    Row2 w' B (.slice (some ⟨b, 0, none⟩) n cap) Ls := by
  obtain ⟨vs, h1, h2, h3⟩ := h
  refine ⟨vs, World.ownsRow.kept (World.ownsRow.alloc h1 _) hg ?_, h2, fun k hk => ⟨World.ownsRow.kept (Row.alloc (h3 k hk).1 _) hg ?_, (h3 k hk).2⟩⟩
  · cases e : v.ownBlock with
    | none => exact .inr (by simp [Value.ownBlock])
    | some g => exact .inr (fun e2 => hv (by rw [e]; exact e2.symm))
  · rcases ht with e | ⟨g, cur, e, hgb⟩
    · rw [e]
      cases e3 : ((vs[k]?.getD undef).ownBlock) with
      | none => exact .inl rfl
      | some q => exact .inr (by simp)
    · rw [e]
      exact apart_t (h3 k hk).1 hgb (by decide)
end Go.Proofs.YtcemhepojjbcgaaDoor
