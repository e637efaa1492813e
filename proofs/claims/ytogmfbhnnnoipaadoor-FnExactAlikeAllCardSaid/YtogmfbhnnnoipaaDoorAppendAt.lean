/- append of one number: where the list lies then. -/
import Derived.Test.YtogmfbhnnnoipaaDoorBaseA
import Derived.Maps.AppendAt
namespace Go.Proofs.YtogmfbhnnnoipaaDoor
open Go.RowKit
set_option linter.unusedVariables false

theorem append_at {ops : Array Oper} {rest : List Oper} {o : Oper} {a : Act} {Q : Exit → Act → World → Prop} (hgd : o.guard = none) (s x : Operand)
    (ho : o.op = .call { callee := .builtin .append, args := #[s, x], argTypes := #[22, 22] }) (w : World) (B : Nat) (v : Value) (xs : List Int) (y : Int)
    (hs : a.eval s = v) (hx : a.eval x = .slice (some ⟨w.heap.size, 0, none⟩) 1 1) (hr : Row w B v xs) (hB : B ≤ w.heap.size) (hlen : xs.length ≤ 100000)
    (h : ∀ v' w', Row w' B v' (xs ++ [y]) → Below B w w' → (w.alloc (.cells #[.int .i64 y] 3)).grownBy w' v.ownBlock → (v'.ownBlock = v.ownBlock ∨ ∃ g, v'.ownBlock = some g ∧ w.heap.size ≤ g) → wpList Tryd.prog ops Q rest (a.put o.dst v') w') :
    wpList Tryd.prog ops Q (o :: rest) a (w.alloc (.cells #[.int .i64 y] 3)) := by
  obtain ⟨i0, hi, hz0, hz1, hz2⟩ := info_parts infoInt
  refine wpList_append_own_at (w.alloc (.cells #[.int .i64 y] 3)) hgd s x 22 ho B 3 i0 (.int .i64 0) 1 8 Tryd.underlying22 hi hz0 hz1 hz2 rfl (by decide) v xs.length (xs.map (Value.int .i64)) hs (World.ownsRow.alloc hr _)
    ⟨w.heap.size, 0, none⟩ 1 1 [.int .i64 y] hx rfl (cell_one_new w _ _) (by simp [Value.oneCell']) (by unfold maxLen; omega) (by omega) (by simp; omega) ?_
  intro v' w' hown hg _ hat
  refine h v' w' ?_ ?_ hg (hat.imp_right fun e => ⟨_, e, by simp⟩)
  · unfold Row
    rw [List.length_append, List.map_append]
    exact hown
  · exact ((Below.refl B w).alloc hB _).grown hg (by simp; omega) (fun k hk => (hr.lt k hk).1)

/-- Some blocks stay as they are. -/
def Still (b0 b1 : Nat) (W W' : World) : Prop := ∀ k, b0 ≤ k → k < b1 → W'.heap[k]? = W.heap[k]?
theorem Still.refl (b0 b1 : Nat) (W : World) : Still b0 b1 W W := fun _ _ _ => rfl
theorem Still.cell {b0 b1 : Nat} {W W' : World} (h : Still b0 b1 W W') {k i : Nat} (h0 : b0 ≤ k) (h1 : k < b1) : W'.cell? ⟨k, i, none⟩ = W.cell? ⟨k, i, none⟩ := by
  unfold World.cell?
  rw [h k h0 h1]
theorem Still.grown {b0 b1 : Nat} {W w w' : World} {o : Obj} {row : Option Nat} (h : Still b0 b1 W w) (hs : b1 ≤ w.heap.size) (hg : (w.alloc o).grownBy w' row) (hr : ∀ g, row = some g → g < b0 ∨ b1 ≤ g) : Still b0 b1 W w' := fun k hk hk1 => by
  have h1 : (w.alloc o).heap[k]? = w.heap[k]? := Below.heap_alloc _ _ _ (by omega)
  have h2 := h k hk hk1
  have h3 : w.heap[k]? = some (w.heap[k]'(by omega)) := Array.getElem?_eq_getElem (by omega)
  exact ((hg.block k (by simp; omega) (fun e => by have := hr k e.symm; omega)).trans h1).trans h2
end Go.Proofs.YtogmfbhnnnoipaaDoor
