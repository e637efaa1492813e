/- Lists of lists of the call's own: what they hold, and append to them. -/
import Derived.Test.YtamabhdbcmjbjaaDoorBaseA
import Derived.StillTailTactics
namespace Go.Proofs.YtamabhdbcmjbjaaDoor
open Go.RowKit
set_option linter.unusedVariables false

/-- A list that is not nil, in a block of its own. -/
def RowS (w : World) (B : Nat) (v : Value) (xs : List Int) : Prop := Row w B v xs ∧ v ≠ .slice none 0 0
theorem RowS.shape {w : World} {B : Nat} {v : Value} {xs : List Int} (h : RowS w B v xs) : ∃ b cap, v = .slice (some ⟨b, 0, none⟩) xs.length cap := by
  rcases h.1.2 with ⟨h1, _⟩ | ⟨g, cap, cur, h1, _⟩
  · exact absurd h1 h.2
  · exact ⟨g, cap, h1⟩
theorem RowS.below {w w' : World} {B : Nat} {v : Value} {xs : List Int} (h : RowS w B v xs) (hb : Below w.heap.size w w') : RowS w' B v xs := ⟨h.1.below hb, h.2⟩
theorem RowS.mono {w : World} {B B' : Nat} {v : Value} {xs : List Int} (h : RowS w B v xs) (hb : B' ≤ B) : RowS w B' v xs := ⟨h.1.mono hb, h.2⟩

def Row2 (w : World) (B : Nat) (v : Value) (Ls : List (List Nat)) : Prop := ∃ vs : List Value, w.ownsRow B 23 1 v Ls.length vs ∧ v ≠ .slice none 0 0 ∧ ∀ k, k < Ls.length → RowS w B (vs[k]?.getD undef) (ints (Ls[k]?.getD []))
theorem Row2.shape {w : World} {B : Nat} {v : Value} {Ls : List (List Nat)} (h : Row2 w B v Ls) : ∃ b cap, v = .slice (some ⟨b, 0, none⟩) Ls.length cap ∧ b < w.heap.size := by
  obtain ⟨vs, h1, h2, _⟩ := h
  rcases h1.2 with ⟨h3, _⟩ | ⟨g, cap, cur, h3, _, h4, _⟩
  · exact absurd h3 h2
  · exact ⟨g, cap, h3, (Array.getElem?_eq_some_iff.1 h4).1⟩
theorem Row2.below {w w' : World} {B : Nat} {v : Value} {Ls : List (List Nat)} (h : Row2 w B v Ls) (hb : Below w.heap.size w w') : Row2 w' B v Ls := by
  obtain ⟨vs, ⟨h0, h1⟩, h2, h3⟩ := h
  refine ⟨vs, ⟨h0, ?_⟩, h2, fun k hk => (h3 k hk).below hb⟩
  rcases h1 with h1 | ⟨g, cap, cur, a1, a2, a3, a4⟩
  · exact .inl h1
  · exact .inr ⟨g, cap, cur, a1, a2, (hb.block g (Array.getElem?_eq_some_iff.1 a3).1).trans a3, a4⟩
theorem Row2.mono {w : World} {B B' : Nat} {v : Value} {Ls : List (List Nat)} (h : Row2 w B v Ls) (hb : B' ≤ B) : Row2 w B' v Ls := by
  obtain ⟨vs, ⟨h0, h1⟩, h2, h3⟩ := h
  refine ⟨vs, ⟨h0, ?_⟩, h2, fun k hk => (h3 k hk).mono hb⟩
  rcases h1 with h1 | ⟨g, cap, cur, a1, a2, a3, a4⟩
  · exact .inl h1
  · exact .inr ⟨g, cap, cur, a1, Nat.le_trans hb a2, a3, a4⟩
/-- What lies at a place: a list, and its numbers. -/
theorem Row2.at {w : World} {B : Nat} {b cap : Nat} {Ls : List (List Nat)} (h : Row2 w B (.slice (some ⟨b, 0, none⟩) Ls.length cap) Ls) {k : Nat} (hk : k < Ls.length) :
    ∃ v, w.cell? ⟨b, k, none⟩ = some v ∧ RowS w B v (ints (Ls[k]?.getD [])) := by
  obtain ⟨vs, ⟨h0, h1⟩, h2, h3⟩ := h
  rcases h1 with ⟨h1, _⟩ | ⟨g, cap', cur, a1, a2, a3, a4, a5, a6, a7⟩
  · cases h1
  · injection a1 with e1 e2 e3
    injection e1 with e1
    injection e1 with e1
    subst e1
    refine ⟨vs[k]?.getD undef, ?_, h3 k hk⟩
    have hl : vs.length = Ls.length := by rw [h0]; omega
    have h8 : vs[k]? = some (vs[k]'(by omega)) := List.getElem?_eq_getElem (by omega)
    rw [h8]
    simp only [Option.getD_some]
    have h9 : cur.toList[k]? = some (vs[k]'(by omega)) := by
      rw [← h8, ← a7, List.getElem?_take_of_lt (by omega)]
    simp [World.cell?, a3]
    rw [Array.getElem?_toList] at h9
    exact h9

theorem infoSlice : (Tryd.prog.info? 23).map (fun i => (i.zero, i.size, i.bytes)) = some (some (.slice none 0 0), 1, 24) := by kernel_rfl
/-- The own block of a list of numbers holds numbers. -/
theorem apart_t {w : World} {B g : Nat} {v : Value} {xs : List Int} {t : TypeId} {cur : Array Value} (h : Row w B v xs) (hg : w.heap[g]? = some (.cells cur t)) (ht : t ≠ 3) : v.ownBlock = none ∨ v.ownBlock ≠ some g := by
  rcases h.2 with ⟨rfl, _⟩ | ⟨g', cap, cur', rfl, _, h3, _⟩
  · exact .inl rfl
  · refine .inr fun e => ?_
    have e2 : g' = g := by have e3 : some g' = some g := e; injection e3
    subst e2
    rw [hg] at h3
    injection h3 with h3
    injection h3 with _ h4
    exact ht h4

/-- append of one list to another one. -/
theorem app_list {ops : Array Oper} {rest : List Oper} {o : Oper} {a : Act} {Q : Exit → Act → World → Prop} (hgd : o.guard = none) (s x : Operand)
    (ho : o.op = .call { callee := .builtin .append, args := #[s, x], argTypes := #[23, 23] }) (w : World) (B : Nat) (v : Value) (xs ys : List Int) (b c m : Nat) (hm : ys.length = m)
    (hs : a.eval s = v) (hx : a.eval x = .slice (some ⟨b, 0, none⟩) m c) (hr : RowS w B v xs) (hy : ∀ k, k < ys.length → w.cell? ⟨b, k, none⟩ = some (.int .i64 (ys[k]?.getD 0))) (hB : B ≤ w.heap.size) (hlen : xs.length + ys.length ≤ 100000)
    (h : ∀ v' w', RowS w' B v' (xs ++ ys) → w.grownBy w' v.ownBlock → wpList Tryd.prog ops Q rest (a.put o.dst v') w') :
    wpList Tryd.prog ops Q (o :: rest) a w := by
  subst hm
  obtain ⟨i0, hi, hz0, hz1, hz2⟩ := info_parts infoInt
  refine wpList_append_own w hgd s x 23 ho B 3 i0 (.int .i64 0) 1 8 Tryd.underlying23 hi hz0 hz1 hz2 rfl (by decide) v xs.length (xs.map (Value.int .i64)) hs hr.1
    ⟨b, 0, none⟩ ys.length c (ys.map (Value.int .i64)) hx (by simp) (fun j u hu => ?_) (by simp [Value.oneCell']) (by unfold maxLen; omega) (by omega) hB ?_
  · rw [List.getElem?_map] at hu
    have hj : j < ys.length := by
      refine Nat.lt_of_not_le fun hle => ?_
      rw [List.getElem?_eq_none hle] at hu
      simp at hu
    rw [List.getElem?_eq_getElem hj] at hu
    simp at hu
    subst hu
    have h5 := hy j hj
    rw [List.getElem?_eq_getElem hj] at h5
    have e : (Addr.add ⟨b, 0, none⟩ j : Addr) = ⟨b, j, none⟩ := by simp [Addr.add]; intro h; exact h.symm
    rw [e, h5]
    rfl
  · intro v' w' hown hg hnil
    refine h v' w' ⟨?_, fun e => hr.2 (hnil.1 e).1⟩ hg
    unfold Row
    rw [List.length_append, List.map_append]
    exact hown
/-- append of one list to a list of lists. -/
theorem app_rows {ops : Array Oper} {rest : List Oper} {o : Oper} {a : Act} {Q : Exit → Act → World → Prop} (hgd : o.guard = none) (s x : Operand)
    (ho : o.op = .call { callee := .builtin .append, args := #[s, x], argTypes := #[69, 69] }) (w : World) (B : Nat) (v y : Value) (Ls : List (List Nat)) (P : List Nat)
    (hs : a.eval s = v) (hx : a.eval x = .slice (some ⟨w.heap.size, 0, none⟩) 1 1) (hr : Row2 w B v Ls) (hy : RowS w B y (ints P)) (hB : B ≤ w.heap.size) (hlen : Ls.length ≤ 1000000)
    (h : ∀ v' w', Row2 w' B v' (Ls ++ [P]) → Below B w w' → wpList Tryd.prog ops Q rest (a.put o.dst v') w') :
    wpList Tryd.prog ops Q (o :: rest) a (w.alloc (.cells #[y] 23)) := by
  obtain ⟨i0, hi, hz0, hz1, hz2⟩ := info_parts infoSlice
  obtain ⟨vs, h1, h2, h3⟩ := hr
  obtain ⟨yb, yc, ey⟩ := hy.shape
  have h1' := World.ownsRow.alloc h1 (.cells #[y] 23)
  refine wpList_append_own (w.alloc (.cells #[y] 23)) hgd s x 69 ho B 23 i0 (.slice none 0 0) 1 24 Tryd.underlying69 hi hz0 hz1 hz2 rfl (by decide) v Ls.length vs hs h1'
    ⟨w.heap.size, 0, none⟩ 1 1 [y] hx rfl (cell_one_new w _ _) (by rw [ey]; simp [Value.oneCell']) (by unfold maxLen; omega) (by omega) (by simp; omega) ?_
  intro v' w' hown hg hnil
  have hvl : vs.length = Ls.length := by have := h1.1; omega
  have keep : ∀ u xs, RowS w B u xs → RowS w' B u xs := fun u xs hu => by
    have hu' := Row.alloc hu.1 (.cells #[y] 23)
    refine ⟨World.ownsRow.kept hu' hg ?_, hu.2⟩
    rcases h1'.2 with ⟨e, _⟩ | ⟨g, cap, cur, e, _, hgb, _⟩
    · exact absurd e h2
    · rw [e]
      exact apart_t hu' hgb (by decide)
  refine h v' w' ⟨vs ++ [y], ?_, fun e => h2 (hnil.1 e).1, fun k hk => ?_⟩ (((Below.refl B w).alloc hB _).grown hg (by simp; omega) (fun r e => (World.ownsRow.lt h1 r e).1))
  · rw [List.length_append]; exact hown
  · rw [List.length_append, List.length_singleton] at hk
    by_cases hkl : k < Ls.length
    · rw [List.getElem?_append_left (by omega), List.getElem?_append_left hkl]
      exact keep _ _ (h3 k hkl)
    · have hkk : k = Ls.length := by omega
      subst hkk
      rw [List.getElem?_append_right (by omega), List.getElem?_append_right (Nat.le_refl _), hvl, Nat.sub_self]
      exact keep _ _ hy
end Go.Proofs.YtamabhdbcmjbjaaDoor
