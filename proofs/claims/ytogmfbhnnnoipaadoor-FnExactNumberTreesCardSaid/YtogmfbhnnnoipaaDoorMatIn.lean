/- The operations on matrices inside a fence (a function that ranges over a function). -/
import Derived.Test.YtogmfbhnnnoipaaDoorMat
import Derived.OwnWalkIn
import Derived.RangeFuncNested
namespace Go.Proofs.YtogmfbhnnnoipaaDoor
open Go Go.RowKit
set_option linter.unusedVariables false
set_option maxRecDepth 100000

section
variable {F : Fence} {n : Nat} {ops : Array Oper} {rest : List Oper} {o : Oper} {a : Act} {w : World} {Q : Exit → Act → World → Prop}
theorem stepIn_load_mat (hgd : o.guard = none) (x : Operand) (ho : o.op = .load 45 x) (g : Nat) (m : Mx) (hx : a.eval x = .pointer (some ⟨g, 0, none⟩)) (h : MatAt w g m)
    (hK : wpListIn F n Tryd.prog ops Q rest (a.put o.dst (.agg (matC m))) w) : wpListIn F n Tryd.prog ops Q (o :: rest) a w :=
  wpListIn_plain hgd fun K hK' => by
    unfold Oper.wpIn
    refine ⟨by simp [Oper.about, ho], ?_⟩
    rw [Oper.semAt_plain F _ _ (by rw [ho]; intro c hc'; cases hc')]
    simp only [execOp, ho, hx, Instr.loadAt, Instr.sureAddr, Sem.run_bind, Sem.run_pure, Result.andThen_ok, load_mat h]
    exact hK' _ _ hK
theorem stepIn_store_mat (hgd : o.guard = none) (x y : Operand) (ho : o.op = .store 45 x y) (g : Nat) (m k : Mx) (hx : a.eval x = .pointer (some ⟨g, 0, none⟩)) (hy : a.eval y = .agg (matC k)) (h : MatAt w g m)
    (hK : wpListIn F n Tryd.prog ops Q rest (a.put o.dst undef) (w.setRow g (matC k))) : wpListIn F n Tryd.prog ops Q (o :: rest) a w :=
  wpListIn_plain hgd fun K hK' => by
    unfold Oper.wpIn
    refine ⟨by simp [Oper.about, ho], ?_⟩
    rw [Oper.semAt_plain F _ _ (by rw [ho]; intro c hc'; cases hc')]
    simp only [execOp, ho, hx, hy, Instr.storeAt, Instr.sureAddr, Sem.run_bind, Sem.run_pure, Result.andThen_ok, store_mat k h]
    exact hK' _ _ hK
theorem stepIn_alloc_mat (hgd : o.guard = none) (ho : o.op = .alloc 45)
    (hK : wpListIn F n Tryd.prog ops Q rest (a.put o.dst (.pointer (some ⟨w.heap.size, 0, none⟩))) (w.alloc (.cells (matC fun _ _ => 0) 45))) : wpListIn F n Tryd.prog ops Q (o :: rest) a w :=
  wpListIn_plain hgd fun K hK' => by
    have h : (Instr.alloc 45 true (.tuple #[])).run Tryd.prog w = .ok (.pointer (some ⟨w.heap.size, 0, none⟩)) (w.alloc (.cells (matC fun _ _ => 0) 45)) := by rw [matC_zero]; rfl
    unfold Oper.wpIn
    refine ⟨by simp [Oper.about, ho], ?_⟩
    rw [Oper.semAt_plain F _ _ (by rw [ho]; intro c hc'; cases hc')]
    simp only [execOp, ho, h, Sem.run_bind, Sem.run_pure, Result.andThen_ok]
    exact hK' _ _ hK
end
theorem mat_own {β : Type} (B : Nat) (f : β → Mx) : Own (fun s W => MatAt W B (f s)) := fun s X Y row hs hg hrow =>
  (hg.block B hs.lt (fun e' => by obtain ⟨o, ho, hc⟩ := hrow B e'.symm; rw [show X.heap[B]? = _ from hs] at ho; cases ho; cases hc)).trans hs
end Go.Proofs.YtogmfbhnnnoipaaDoor
