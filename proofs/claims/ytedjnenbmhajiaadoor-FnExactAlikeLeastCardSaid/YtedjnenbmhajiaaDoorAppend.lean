/- append of one number to a list of the call's own. -/
import Derived.Test.YtedjnenbmhajiaaDoorListKit
import Derived.StillTailTactics
import Derived.Deep.RegionLaw
namespace Go.Proofs.YtedjnenbmhajiaaDoor
open Go.RowKit
set_option linter.unusedVariables false

theorem append_one {ops : Array Oper} {rest : List Oper} {o : Oper} {a : Act} {Q : Exit → Act → World → Prop} (hgd : o.guard = none) (s x : Operand)
    (ho : o.op = .call { callee := .builtin .append, args := #[s, x], argTypes := #[22, 22] }) (w : World) (B : Nat) (v : Value) (xs : List Int) (y : Int)
    (hs : a.eval s = v) (hx : a.eval x = .slice (some ⟨w.heap.size, 0, none⟩) 1 1) (hr : Row w B v xs) (hB : B ≤ w.heap.size) (hlen : xs.length ≤ 100000)
    (h : ∀ v' w', Hid (Row w' B v' (xs ++ [y])) → Hid (Below B w w') → wpList Tryd.prog ops Q rest (a.put o.dst v') w') :
    wpList Tryd.prog ops Q (o :: rest) a (w.alloc (.cells #[.int .i64 y] 3)) := by
  obtain ⟨i0, hi, hz0, hz1, hz2⟩ := info_parts infoInt
  refine wpList_append_own (w.alloc (.cells #[.int .i64 y] 3)) hgd s x 22 ho B 3 i0 (.int .i64 0) 1 8 Tryd.underlying22 hi hz0 hz1 hz2 rfl (by decide) v xs.length (xs.map (Value.int .i64)) hs (World.ownsRow.alloc hr _)
    ⟨w.heap.size, 0, none⟩ 1 1 [.int .i64 y] hx rfl (cell_one_new w _ _) (by simp [Value.oneCell']) (by unfold maxLen; omega) (by omega) (by simp; omega) ?_
  intro v' w' hown hg _
  refine h v' w' ?_ ?_
  · unfold Hid Row
    rw [List.length_append, List.map_append]
    exact hown
  · exact ((Below.refl B w).alloc hB _).grown hg (by simp; omega) (fun k hk => (hr.lt k hk).1)
/-- The same as a step of a region that draws its order. -/
theorem step_one {ops : Array Oper} {o : Oper} {a : Act} {K : Act → World → Prop} {Q : Exit → Act → World → Prop} {E : Prop} (hgd : o.guard = none) (s x : Operand)
    (ho : o.op = .call { callee := .builtin .append, args := #[s, x], argTypes := #[22, 22] }) (w : World) (B : Nat) (v : Value) (xs : List Int) (y : Int)
    (hs : a.eval s = v) (hx : a.eval x = .slice (some ⟨w.heap.size, 0, none⟩) 1 1) (hr : Row w B v xs) (hB : B ≤ w.heap.size) (hlen : xs.length ≤ 100000)
    (h : ∀ v' w', Hid (Row w' B v' (xs ++ [y])) → Hid (Below B w w') → K (a.put o.dst v') w') :
    if Region.wanted o (yielded ops a.tmps) = true then Oper.wp Tryd.prog o a (w.alloc (.cells #[.int .i64 y] 3)) K Q else E := by
  rw [if_pos (by simp [Region.wanted, hgd])]
  obtain ⟨i0, hi, hz0, hz1, hz2⟩ := info_parts infoInt
  refine wp_append_own (w.alloc (.cells #[.int .i64 y] 3)) s x 22 ho B 3 i0 (.int .i64 0) 1 8 Tryd.underlying22 hi hz0 hz1 hz2 rfl (by decide) v xs.length (xs.map (Value.int .i64)) hs (World.ownsRow.alloc hr _)
    ⟨w.heap.size, 0, none⟩ 1 1 [.int .i64 y] hx rfl (cell_one_new w _ _) (by simp [Value.oneCell']) (by unfold maxLen; omega) (by omega) (by simp; omega) ?_
  intro v' w' hown hg _
  refine h v' w' ?_ ?_
  · unfold Hid Row
    rw [List.length_append, List.map_append]
    exact hown
  · exact ((Below.refl B w).alloc hB _).grown hg (by simp; omega) (fun k hk => (hr.lt k hk).1)
end Go.Proofs.YtedjnenbmhajiaaDoor
