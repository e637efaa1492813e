/- Lists of slices of the call's own: what a place holds; append; what is left when a row was rewritten. -/
import Derived.Test.YtnnobbbljpaieaaDoorSl
import Derived.Test.YtnnobbbljpaieaaDoorBaseA
import Derived.OwnWalkIn
namespace Go.Proofs.YtnnobbbljpaieaaDoor
open Go.RowKit Go.Shelf Go.Sort
set_option linter.unusedVariables false
set_option maxRecDepth 100000
variable {n₀ : Nat} {w : World}

/-- A list of slices in a block of the call's own. -/
def RowL (W : World) (B : Nat) (v : Value) (L : List (Sl n₀ w)) : Prop := W.ownsRow B 22 1 v L.length (L.map encS)
theorem RowL.mono {W : World} {B B' : Nat} {v : Value} {L : List (Sl n₀ w)} (h : RowL W B v L) (hB : B' ≤ B) : RowL W B' v L := by
  obtain ⟨h1, h2⟩ := h
  refine ⟨h1, ?_⟩
  rcases h2 with h2 | ⟨g, cap, cur, hv, hg, r⟩
  · exact .inl h2
  · exact .inr ⟨g, cap, cur, hv, Nat.le_trans hB hg, r⟩
theorem RowL.below {W W' : World} {B : Nat} {v : Value} {L : List (Sl n₀ w)} (h : RowL W B v L) (hb : Below W.heap.size W W') : RowL W' B v L :=
  World.ownsRow.kept (row := none) h ⟨hb.os, hb.tape, hb.output, hb.size, fun k hk _ => hb.block k hk⟩ (by cases hv : v.ownBlock <;> simp)
theorem RowL.lt {W : World} {B : Nat} {v : Value} {L : List (Sl n₀ w)} (h : RowL W B v L) : ∀ k, v.ownBlock = some k → B ≤ k ∧ k < W.heap.size := World.ownsRow.lt h
theorem RowL.nil (W : World) (B : Nat) : RowL W B (.slice none 0 0) ([] : List (Sl n₀ w)) := World.ownsRow_nil W B 22 1
theorem mapS_get (L : List (Sl n₀ w)) (k : Nat) (hk : k < L.length) : (L.map encS)[k]? = some (encS L[k]!) := by
  rw [List.getElem?_map, List.getElem?_eq_getElem hk, getElem!_pos L k hk]; rfl
/-- How a list that is not empty lies. -/
theorem RowL.block {W : World} {B : Nat} {v : Value} {L : List (Sl n₀ w)} (h : RowL W B v L) (h0 : 0 < L.length) :
    ∃ g cap cur, v = .slice (some ⟨g, 0, none⟩) L.length cap ∧ B ≤ g ∧ g < W.heap.size ∧ W.heap[g]? = some (.cells cur 22 (0, 0)) ∧ L.length ≤ cap ∧ cap ≤ maxLen ∧ cur.size = cap * 1 ∧ cur.toList.take L.length = L.map encS := by
  rcases h.2 with ⟨_, hn⟩ | ⟨g, cap, cur, hv, hg, hb, h1, h2, h3, h4⟩
  · omega
  · exact ⟨g, cap, cur, hv, hg, (Array.getElem?_eq_some_iff.1 hb).1, hb, h1, h2, h3, by simpa using h4⟩
theorem holds_of {W : World} {g : Nat} {cur : Array Value} {e : TypeId} {L : List (Sl n₀ w)} (hb : W.heap[g]? = some (.cells cur e (0, 0))) (ht : cur.toList.take L.length = L.map encS) : Holds encS W g 0 L.toArray := fun j hj => by
  have hj' : j < L.length := by simpa using hj
  refine ⟨?_, by simp [World.frozen?, hb]⟩
  have h1 : (cur.toList.take L.length)[j]? = (L.map encS)[j]? := by rw [ht]
  rw [List.getElem?_take_of_lt hj', mapS_get L j hj'] at h1
  simp only [World.cell?, hb, Nat.zero_add]
  simp only [Option.isSome_none, Bool.false_eq_true, if_false]
  rw [← Array.getElem?_toList, h1]
  simp [getElem!_pos, hj']
/-- What lies behind a row that was rewritten. -/
theorem heap_put {W : World} {g n : Nat} {os : Array Obj} {cur : Array Value} {e : TypeId} {fr : Nat × Nat} (d : Array (Sl n₀ w)) (hb : W.heap[g]? = some (.cells cur e fr)) :
    (sortWorld encS W g 0 n d os).heap[g]? = some (.cells (putCells encS 0 d cur) e fr) := by
  have hg : g < W.heap.size := (Array.getElem?_eq_some_iff.1 hb).1
  unfold sortWorld
  rw [heap_grow_old _ _ (by rw [size_putRow]; exact hg)]
  simp [putRow, mapBlock, Sort.ahead, Array.getElem?_modify, hb, onCells]
theorem grown_put {W : World} {g n : Nat} {os : Array Obj} (d : Array (Sl n₀ w)) : W.grownBy (sortWorld encS W g 0 n d os) (some g) := by
  refine ⟨rfl, rfl, rfl, sort_size _ _ _ _ _ _ _, fun k hk hne => ?_⟩
  unfold sortWorld
  rw [heap_grow_old _ _ (by rw [size_putRow]; exact hk)]
  have : g ≠ k := fun e => hne (by rw [e])
  simp [putRow, mapBlock, Sort.ahead, Array.getElem?_modify, this]
theorem take_put (cur : Array Value) (d : Array (Sl n₀ w)) (m : Nat) (hm : m ≤ d.size) (h : d.size ≤ cur.size) : (putCells encS 0 d cur).toList.take m = (d.toList.take m).map encS := by
  apply List.ext_getElem?
  intro j
  by_cases hj : j < m
  · have hd : j < d.size := by omega
    rw [List.getElem?_take_of_lt hj, Array.getElem?_toList, List.getElem?_map, List.getElem?_take_of_lt hj, Array.getElem?_toList]
    simp [putCells, hd, show j < cur.size by omega]
  · rw [List.getElem?_take_eq_none (by omega), List.getElem?_eq_none (by simp; omega)]
/-- The first places of a row that was rewritten are a list of the call's own. -/
theorem row_put {W : World} {B g cap n m : Nat} {os : Array Obj} {cur : Array Value} {d : Array (Sl n₀ w)} (hB : B ≤ g) (hb : W.heap[g]? = some (.cells cur 22 (0, 0))) (hm : m ≤ d.size) (h1 : d.size ≤ cap) (h2 : cap ≤ maxLen) (h3 : cur.size = cap * 1) :
    RowL (sortWorld encS W g 0 n d os) B (.slice (some ⟨g, 0, none⟩) m cap) (d.toList.take m) := by
  have hl : (d.toList.take m).length = m := by rw [List.length_take, Array.length_toList]; omega
  refine ⟨by rw [List.length_map, Nat.mul_one], .inr ⟨g, cap, _, by rw [hl], hB, heap_put d hb, by omega, h2, by simp [putCells, h3], ?_⟩⟩
  rw [Nat.mul_one, hl]
  exact take_put cur d m hm (by omega)

/-- append of one slice to a list of slices. -/
theorem appendIn_sl {F : Fence} {n : Nat} {ops : Array Oper} {rest : List Oper} {o : Oper} {a : Act} {Q : Exit → Act → World → Prop} (hgd : o.guard = none) (s x : Operand)
    (ho : o.op = .call { callee := .builtin .append, args := #[s, x], argTypes := #[28, 28] }) (W : World) (B : Nat) (v : Value) (L : List (Sl n₀ w)) (y : Sl n₀ w)
    (hs : a.eval s = v) (hx : a.eval x = .slice (some ⟨W.heap.size, 0, none⟩) 1 1) (hr : RowL W B v L) (hB : B ≤ W.heap.size) (hlen : L.length ≤ 100000)
    (h : ∀ v' W', RowL W' B v' (L ++ [y]) → (W.alloc (.cells #[encS y] 22)).grownBy W' v.ownBlock → wpListIn F n Tryd.prog ops Q rest (a.put o.dst v') W') :
    wpListIn F n Tryd.prog ops Q (o :: rest) a (W.alloc (.cells #[encS y] 22)) := by
  obtain ⟨i0, hi, hz0, hz1, hz2⟩ := info_parts infoSlice
  refine wpListIn_append_own (W.alloc (.cells #[encS y] 22)) hgd s x 28 ho B 22 i0 (.slice none 0 0) 1 24 Tryd.underlying28 hi hz0 hz1 hz2 rfl (by decide) v L.length (L.map encS) hs (World.ownsRow.alloc hr _)
    ⟨W.heap.size, 0, none⟩ 1 1 [encS y] hx rfl (cell_one_new W _ _) (by simp [encS_one y]) (by unfold maxLen; omega) (by omega) (by simp; omega) ?_
  intro v' w' hown hg _
  refine h v' w' ?_ hg
  unfold RowL
  rw [List.length_append, List.map_append]
  exact hown
end Go.Proofs.YtnnobbbljpaieaaDoor
