/- A region that draws its order, in a plain walk, by an invariant over what has come up: each operation is walked once, whatever the order. append of one own list to another one as one operation of such a region. -/
import Derived.Orders
import Derived.RegionTactic
import Derived.Laws.OwnMore
import Derived.Test.YtnnobbbljpaieaaDoorRegionInv
import Derived.Test.YtnnobbbljpaieaaDoorRowsZ
namespace Go.Proofs.YtnnobbbljpaieaaDoor
open Go Go.RowKit
set_option linter.unusedVariables false

section
variable {P : Program} {md : Region.Mode} {ops : Array Oper} {Q : Exit → Act → World → Prop}
theorem wpAny_inv (I : Array Bool → Act → World → Prop)
    (hstep : ∀ listed a w i, I listed a w → i ∈ Region.ready md ops listed → wpOp P ops Q i (I (listed.setIfInBounds i true)) a w)
    (hend : ∀ listed a w, I listed a w → Region.ready md ops listed = [] → Q .normal a w) :
    ∀ fuel listed a w, openN listed ≤ fuel → I listed a w → wpAny P md ops Q fuel listed a w
  | 0, listed, a, w, hf, h => by
    have hr : Region.ready md ops listed = [] := by
      refine List.eq_nil_iff_forall_not_mem.2 fun i hi => ?_
      have h1 := openN_set (mem_ready.1 hi).1
      omega
    exact ⟨hr, hend _ _ _ h hr⟩
  | fuel + 1, listed, a, w, hf, h => by
    refine ⟨hend _ _ _ h, fun i hi => ?_⟩
    have h1 := openN_set (mem_ready.1 hi).1
    exact wpOp_mono (fun a' w' h2 => wpAny_inv I hstep hend fuel _ a' w' (by omega) h2) (hstep _ _ _ i h hi)
theorem wp_region_inv {id : Nat} {a : Act} {w : World} (hm : P.follows .mixedOrders = true) (I : Array Bool → Act → World → Prop)
    (h0 : I (Array.replicate ops.size false) a w.drew)
    (hstep : ∀ listed a w i, I listed a w → i ∈ Region.ready .any ops listed → wpOp P ops Q i (I (listed.setIfInBounds i true)) a w)
    (hu : upward ops = true) (hend : ∀ listed a w, I listed a w → (∀ i, i < ops.size → listed.getD i true = true) → Q .normal a w) : (Code.region id ops true).wp P Q a w :=
  wp_region_any hm (wpAny_inv I hstep (fun _ _ _ h hr => hend _ _ _ h (fun i hi => all_up hu hr i i (Nat.le_refl _) hi)) _ _ _ _ (by unfold openN; simp) h0)
end

/-- append of a list of the call's own, nil or not, to another one that is not nil. -/
theorem run_append_row {w : World} {B B' : Nat} {v u : Value} {xs ys : List Int} (ty : TypeId) (hr : RowS w B v xs) (hy : Row w B' u ys) (hB : B ≤ w.heap.size) (hlen : xs.length + ys.length ≤ 100000) :
    ∃ v' w', (Builtin.append_ #[22, 22] ty #[v, u]).run Tryd.prog w = .ok v' w' ∧ RowS w' B v' (xs ++ ys) ∧ w.grownBy w' v.ownBlock := by
  obtain ⟨i0, hi, hz0, hz1, hz2⟩ := info_parts infoInt
  have hy0 := hy
  unfold Row at hy0
  rcases hy0.2 with ⟨rfl, hn⟩ | ⟨g, cap, cur, rfl, hg, hb, h1, h2, h3, h4⟩
  · have hys : ys = [] := List.eq_nil_of_length_eq_zero hn
    subst hys
    exact ⟨v, w, run_append_owned_none (P := Tryd.prog) (w := w) B 22 ty 3 i0 1 Tryd.underlying22 hi v _ _ hr.1, by rw [List.append_nil]; exact hr, World.grownBy.refl w _⟩
  · obtain ⟨v', w', hrun, r1, r2, r3⟩ := run_append_own (P := Tryd.prog) (w := w) B 22 ty 3 i0 (.int .i64 0) 1 8 Tryd.underlying22 hi hz0 hz1 hz2 rfl (by decide) v xs.length (xs.map (Value.int .i64)) hr.1
      ⟨g, 0, none⟩ ys.length cap (ys.map (Value.int .i64)) (by simp) (fun j x hx => by
        have hj : j < ys.length := by
          have := (List.getElem?_eq_some_iff.1 hx).1
          simpa using this
        rw [Go.WideShapes.add_plain, Nat.zero_add, hy.cellAt j hj]
        rw [getD_map ys j hj] at hx
        exact hx) (by simp [Value.oneCell']) (by unfold maxLen; omega) (by omega) hB
    refine ⟨v', w', hrun, ⟨?_, fun e => hr.2 (r3.1 e).1⟩, r2⟩
    unfold Row
    rw [List.length_append, List.map_append]
    exact r1
theorem op_append_row {o : Oper} {a : Act} {K : Act → World → Prop} {Q : Exit → Act → World → Prop} (s x : Operand)
    (ho : o.op = .call { callee := .builtin .append, args := #[s, x], argTypes := #[22, 22] }) {w : World} {B B' : Nat} {v u : Value} {xs ys : List Int} (hs : a.eval s = v) (hx : a.eval x = u)
    (hr : RowS w B v xs) (hy : Row w B' u ys) (hB : B ≤ w.heap.size) (hlen : xs.length + ys.length ≤ 100000)
    (h : ∀ v' w', RowS w' B v' (xs ++ ys) → w.grownBy w' v.ownBlock → K (a.put o.dst v') w') : Oper.wp Tryd.prog o a w K Q := by
  obtain ⟨v', w', hrun, h1, h2⟩ := run_append_row o.type hr hy hB hlen
  unfold Oper.wp
  simp [execOp, ho, resolve, invoke, builtin, hs, hx, hrun, Result.andThen]
  exact h _ _ h1 h2
/-- append of one list to a list of lists. -/
theorem op_append_rows {o : Oper} {a : Act} {K : Act → World → Prop} {Q : Exit → Act → World → Prop} (s x : Operand)
    (ho : o.op = .call { callee := .builtin .append, args := #[s, x], argTypes := #[28, 28] }) {w : World} {B b : Nat} {v y : Value} {Ls : List (List Int)} {P : List Int} (hs : a.eval s = v) (hx : a.eval x = .slice (some ⟨b, 0, none⟩) 1 1)
    (hr : Row2Z w B v Ls) (hy : RowS w B y P) (hc : w.cell? ⟨b, 0, none⟩ = some y) (hB : B ≤ w.heap.size) (hlen : Ls.length ≤ 100000)
    (h : ∀ v' w', Row2Z w' B v' (Ls ++ [P]) → Below B w w' → K (a.put o.dst v') w') : Oper.wp Tryd.prog o a w K Q := by
  obtain ⟨i0, hi, hz0, hz1, hz2⟩ := info_parts infoSlice
  obtain ⟨vs, h1, h2, h3⟩ := hr
  obtain ⟨yb, yc, ey⟩ := hy.shape
  obtain ⟨v', w', hrun, hown, hg, hnil⟩ := run_append_own (P := Tryd.prog) (w := w) B 28 o.type 22 i0 (.slice none 0 0) 1 24 Tryd.underlying28 hi hz0 hz1 hz2 rfl (by decide) v Ls.length vs h1
    ⟨b, 0, none⟩ 1 1 [y] rfl (fun j u hu => by
      cases j with
      | zero => simp at hu; subst hu; rw [Go.WideShapes.add_plain]; exact hc
      | succ j => simp at hu) (by rw [ey]; simp [Value.oneCell']) (by unfold maxLen; omega) (by omega) hB
  have hvl : vs.length = Ls.length := by have := h1.1; omega
  have keep : ∀ u xs, RowS w B u xs → RowS w' B u xs := fun u xs hu => by
    refine ⟨World.ownsRow.kept hu.1 hg ?_, hu.2⟩
    rcases h1.2 with ⟨e, _⟩ | ⟨g, cap, cur, e, _, hgb, _⟩
    · exact absurd e h2
    · rw [e]
      exact apart_t hu.1 hgb (by decide)
  unfold Oper.wp
  simp [execOp, ho, resolve, invoke, builtin, hs, hx, hrun, Result.andThen]
  refine h v' w' ⟨vs ++ [y], ?_, fun e => h2 (hnil.1 e).1, fun k hk => ?_⟩ ((Below.refl B w).grown hg hB (fun r e => (World.ownsRow.lt h1 r e).1))
  · rw [List.length_append]; exact hown
  · rw [List.length_append, List.length_singleton] at hk
    by_cases hkl : k < Ls.length
    · rw [List.getElem?_append_left (by omega), List.getElem?_append_left hkl]
      exact keep _ _ (h3 k hkl)
    · have hkk : k = Ls.length := by omega
      subst hkk
      rw [List.getElem?_append_right (by omega), List.getElem?_append_right (Nat.le_refl _), hvl, Nat.sub_self]
      exact keep _ _ hy
end Go.Proofs.YtnnobbbljpaieaaDoor
