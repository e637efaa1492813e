/- Matrices of six by six numbers as the cells of a box hold them; what the operations on arrays make of them. No condition but those that each theorem names. -/
import Derived.Test.YtogmfbhnnnoipaaDoorWalkMath
import Derived.Laws.Rows
import Derived.RangeFuncBox
namespace Go.Proofs.YtogmfbhnnnoipaaDoor
open Go Go.RowKit
set_option linter.unusedVariables false
set_option maxRecDepth 100000

def matC (m : Mx) : Array Value := (Array.range 36).map fun t => .int .i64 (m (t / 6) (t % 6))
def rowC (r : Nat → Int) : Array Value := (Array.range 6).map fun t => .int .i64 (r t)
theorem matC_size (m : Mx) : (matC m).size = 36 := by simp [matC]
theorem rowC_size (r : Nat → Int) : (rowC r).size = 6 := by simp [rowC]
theorem matC_get (m : Mx) {i j : Nat} (hi : i < 6) (hj : j < 6) : (matC m)[i * 6 + j]? = some (.int .i64 (m i j)) := by
  unfold matC
  have h1 : (i * 6 + j) / 6 = i := by omega
  have h2 : (i * 6 + j) % 6 = j := by omega
  rw [Array.getElem?_map, Array.getElem?_range, if_pos (by omega)]
  simp [h1, h2]
theorem rowC_get (r : Nat → Int) {j : Nat} (hj : j < 6) : (rowC r)[j]? = some (.int .i64 (r j)) := by
  unfold rowC
  rw [Array.getElem?_map, Array.getElem?_range, if_pos (by omega)]
  rfl
theorem matC_congr {m n : Mx} (h : MEq m n) : matC m = matC n := by
  unfold matC
  apply Array.ext_getElem?
  intro t
  rw [Array.getElem?_map, Array.getElem?_map, Array.getElem?_range]
  split
  · simp [h (t / 6) (t % 6) (by omega) (by omega)]
  · rfl
theorem rowC_congr {r s : Nat → Int} (h : ∀ j, j < 6 → r j = s j) : rowC r = rowC s := by
  unfold rowC
  apply Array.ext_getElem?
  intro t
  rw [Array.getElem?_map, Array.getElem?_map, Array.getElem?_range]
  split
  · simp [h t (by omega)]
  · rfl
theorem matC_set (m : Mx) {i j : Nat} (x : Int) (hi : i < 6) (hj : j < 6) : (matC m).setIfInBounds (i * 6 + j) (.int .i64 x) = matC (mset m i j x) := by
  apply Array.ext_getElem?
  intro t
  rw [Array.getElem?_setIfInBounds, matC_size]
  unfold matC mset
  by_cases h : i * 6 + j = t
  · subst h
    have h1 : (i * 6 + j) / 6 = i := by omega
    have h2 : (i * 6 + j) % 6 = j := by omega
    rw [if_pos rfl, if_pos (by omega), Array.getElem?_map, Array.getElem?_range, if_pos (by omega)]
    simp [h1, h2]
  · rw [if_neg h, Array.getElem?_map, Array.getElem?_map, Array.getElem?_range]
    split
    · have : ¬ (t / 6 = i ∧ t % 6 = j) := fun e => h (by omega)
      simp [this]
    · rfl
theorem rowC_set (r : Nat → Int) {j : Nat} (x : Int) (hj : j < 6) : (rowC r).setIfInBounds j (.int .i64 x) = rowC (fun i => if i = j then x else r i) := by
  apply Array.ext_getElem?
  intro t
  rw [Array.getElem?_setIfInBounds, rowC_size]
  unfold rowC
  by_cases h : j = t
  · subst h
    rw [if_pos rfl, if_pos (by omega), Array.getElem?_map, Array.getElem?_range, if_pos (by omega)]
    simp
  · rw [if_neg h, Array.getElem?_map, Array.getElem?_map, Array.getElem?_range]
    split
    · have : ¬ (t = j) := fun e => h e.symm
      simp [this]
    · rfl
theorem matC_row (m : Mx) {i : Nat} (hi : i < 6) : (matC m).extract (i * 6) (i * 6 + 6) = rowC (m i) := by
  apply Array.ext_getElem?
  intro t
  rw [Array.getElem?_extract, matC_size]
  by_cases h : t < 6
  · rw [if_pos (by omega), matC_get m hi h, rowC_get _ h]
  · rw [if_neg (by omega)]
    unfold rowC
    rw [Array.getElem?_map, Array.getElem?_range, if_neg h]
    rfl
theorem matC_one (m : Mx) : (matC m).all (·.oneCell') = true := Array.all_eq_true_iff_forall_mem.2 fun v hv => by obtain ⟨t, _, rfl⟩ := Array.mem_map.1 hv; rfl
theorem rowC_one (r : Nat → Int) : (rowC r).all (·.oneCell') = true := Array.all_eq_true_iff_forall_mem.2 fun v hv => by obtain ⟨t, _, rfl⟩ := Array.mem_map.1 hv; rfl

/-- A box that holds a matrix. -/
def MatAt (w : World) (g : Nat) (m : Mx) : Prop := w.heap[g]? = some (.cells (matC m) 45 (0, 0))
def RowAt (w : World) (g : Nat) (r : Nat → Int) : Prop := w.heap[g]? = some (.cells (rowC r) 43 (0, 0))
theorem MatAt.lt {w : World} {g : Nat} {m : Mx} (h : MatAt w g m) : g < w.heap.size := (Array.getElem?_eq_some_iff.1 h).1
theorem RowAt.lt {w : World} {g : Nat} {r : Nat → Int} (h : RowAt w g r) : g < w.heap.size := (Array.getElem?_eq_some_iff.1 h).1
theorem MatAt.cell {w : World} {g : Nat} {m : Mx} (h : MatAt w g m) {i j : Nat} (hi : i < 6) (hj : j < 6) : w.cell? ⟨g, i * 6 + j, none⟩ = some (.int .i64 (m i j)) := by
  rw [cell_of_row w g _ _ _ _ h, matC_get m hi hj]
theorem MatAt.frozen {w : World} {g : Nat} {m : Mx} (h : MatAt w g m) (k : Nat) : w.frozen? ⟨g, k, none⟩ = false := frozen_of_row w g k _ _ h
theorem RowAt.cell {w : World} {g : Nat} {r : Nat → Int} (h : RowAt w g r) {j : Nat} (hj : j < 6) : w.cell? ⟨g, j, none⟩ = some (.int .i64 (r j)) := by
  rw [cell_of_row w g _ _ _ _ h, rowC_get r hj]
theorem RowAt.frozen {w : World} {g : Nat} {r : Nat → Int} (h : RowAt w g r) (k : Nat) : w.frozen? ⟨g, k, none⟩ = false := frozen_of_row w g k _ _ h
theorem MatAt.set {w : World} {g : Nat} {m : Mx} (h : MatAt w g m) {i j : Nat} (x : Int) (hi : i < 6) (hj : j < 6) : MatAt (w.setCell ⟨g, i * 6 + j, none⟩ (.int .i64 x)) g (mset m i j x) := by
  unfold MatAt
  rw [heap_setCell_same w g _ _ _ _ h, matC_set m x hi hj]
theorem MatAt.congr {w : World} {g : Nat} {m n : Mx} (h : MatAt w g m) (e : MEq m n) : MatAt w g n := by unfold MatAt; rw [← matC_congr e]; exact h
theorem MatAt.other {w : World} {g : Nat} {m : Mx} (h : MatAt w g m) {a : Addr} (v : Value) (hne : g ≠ a.block) : MatAt (w.setCell a v) g m := (heap_setCell_other w a g v hne).trans h
theorem MatAt.setRow {w : World} {g : Nat} {m : Mx} (h : MatAt w g m) {b : Nat} (cs : Array Value) (hne : g ≠ b) : MatAt (w.setRow b cs) g m := (setRow_other w b g cs hne).trans h
theorem RowAt.other {w : World} {g : Nat} {r : Nat → Int} (h : RowAt w g r) {a : Addr} (v : Value) (hne : g ≠ a.block) : RowAt (w.setCell a v) g r := (heap_setCell_other w a g v hne).trans h
theorem RowAt.setRow {w : World} {g : Nat} {r : Nat → Int} (h : RowAt w g r) {b : Nat} (cs : Array Value) (hne : g ≠ b) : RowAt (w.setRow b cs) g r := (setRow_other w b g cs hne).trans h
theorem MatAt.alloc {w : World} {g : Nat} {m : Mx} (h : MatAt w g m) (o : Obj) : MatAt (w.alloc o) g m := (Below.heap_alloc w o g h.lt).trans h
theorem RowAt.alloc {w : World} {g : Nat} {r : Nat → Int} (h : RowAt w g r) (o : Obj) : RowAt (w.alloc o) g r := (Below.heap_alloc w o g h.lt).trans h
theorem MatAt.below {w w' : World} {B g : Nat} {m : Mx} (h : MatAt w g m) (hb : Below B w w') (hg : g < B) : MatAt w' g m := (hb.block g hg).trans h
theorem RowAt.below {w w' : World} {B g : Nat} {r : Nat → Int} (h : RowAt w g r) (hb : Below B w w') (hg : g < B) : RowAt w' g r := (hb.block g hg).trans h
theorem MatAt.new (w : World) (m : Mx) : MatAt (w.alloc (.cells (matC m) 45)) w.heap.size m := heap_alloc_new w _
theorem RowAt.new (w : World) (r : Nat → Int) : RowAt (w.alloc (.cells (rowC r) 43)) w.heap.size r := heap_alloc_new w _
theorem below_setRow {B : Nat} {a w : World} (h : Below B a w) {g : Nat} (hp : B ≤ g) (cs : Array Value) : Below B a (w.setRow g cs) :=
  h.trans ⟨rfl, rfl, rfl, by simp, fun k hk => setRow_other w g k cs (by omega)⟩

/-! ### the operations -/
theorem mat_desc : Tryd.prog.underlying 45 = some (.array 6 43) := by kernel_rfl
theorem row_desc : Tryd.prog.underlying 43 = some (.array 6 3) := by kernel_rfl
theorem mat_info : (Tryd.prog.info? 45).map (·.size) = some 36 := by kernel_rfl
theorem row_info : (Tryd.prog.info? 43).map (·.size) = some 6 := by kernel_rfl
theorem load_mat {w : World} {g : Nat} {m : Mx} (h : MatAt w g m) : (loadVar 45 ⟨g, 0, none⟩).run Tryd.prog w = .ok (.agg (matC m)) w :=
  run_loadVar_row w g _ _ _ _ _ h mat_desc rfl (by rw [matC_size]; exact mat_info)
theorem load_row {w : World} {g : Nat} {r : Nat → Int} (h : RowAt w g r) : (loadVar 43 ⟨g, 0, none⟩).run Tryd.prog w = .ok (.agg (rowC r)) w :=
  run_loadVar_row w g _ _ _ _ _ h row_desc rfl (by rw [rowC_size]; exact row_info)
theorem store_mat {w : World} {g : Nat} {m : Mx} (n : Mx) (h : MatAt w g m) : (storeVar 45 ⟨g, 0, none⟩ (.agg (matC n))).run Tryd.prog w = .ok () (w.setRow g (matC n)) :=
  run_storeVar_row w g _ _ _ _ h (by rw [matC_size]; exact mat_info) (by rw [matC_size, matC_size]) (matC_one n)
theorem store_row {w : World} {g : Nat} {r : Nat → Int} (s : Nat → Int) (h : RowAt w g r) : (storeVar 43 ⟨g, 0, none⟩ (.agg (rowC s))).run Tryd.prog w = .ok () (w.setRow g (rowC s)) :=
  run_storeVar_row w g _ _ _ _ h (by rw [rowC_size]; exact row_info) (by rw [rowC_size, rowC_size]) (rowC_one s)
theorem MatAt.stored {w : World} {g : Nat} {m : Mx} (n : Mx) (h : MatAt w g m) : MatAt (w.setRow g (matC n)) g n := setRow_heap w g _ _ _ _ h
theorem RowAt.stored {w : World} {g : Nat} {r : Nat → Int} (s : Nat → Int) (h : RowAt w g r) : RowAt (w.setRow g (rowC s)) g s := setRow_heap w g _ _ _ _ h

theorem index_mat (m : Mx) (k : Nat) (hk : k < 6) (W : World) : (Instr.index 45 (.agg (matC m)) (.int .i64 k)).run Tryd.prog W = .ok (.agg (rowC (m k))) W := by
  have hs : ∀ W, (sizeOf 43).run Tryd.prog W = .ok 6 W := fun W => by kernel_rfl
  have ha : ∀ W, (isAgg 43).run Tryd.prog W = .ok true W := fun W => by kernel_rfl
  have h1 : (0 : Int) ≤ (k : Int) ∧ (k : Int) < ((6 : Nat) : Int) := by omega
  simp only [Instr.index, asIntOf, Sem.run_bind, Sem.run_pure, Result.andThen_ok, run_underlying mat_desc, part, if_pos h1, hs, ha, if_true, Int.toNat_natCast]
  rw [matC_row m hk]
theorem index_row (r : Nat → Int) (k : Nat) (hk : k < 6) (W : World) : (Instr.index 43 (.agg (rowC r)) (.int .i64 k)).run Tryd.prog W = .ok (.int .i64 (r k)) W := by
  have hs : ∀ W, (sizeOf 3).run Tryd.prog W = .ok 1 W := fun W => by kernel_rfl
  have ha : ∀ W, (isAgg 3).run Tryd.prog W = .ok false W := fun W => by kernel_rfl
  have h1 : (0 : Int) ≤ (k : Int) ∧ (k : Int) < ((6 : Nat) : Int) := by omega
  simp only [Instr.index, asIntOf, Sem.run_bind, Sem.run_pure, Result.andThen_ok, run_underlying row_desc, part, if_pos h1, hs, ha, Bool.false_eq_true, if_false, Int.toNat_natCast, Nat.mul_one, rowC_get r hk]
theorem addr_mat (g k : Nat) (hk : k < 6) (W : World) : (Instr.indexAt 45 (.pointer (some ⟨g, 0, none⟩)) (.int .i64 k)).run Tryd.prog W = .ok (.pointer (some ⟨g, k * 6, none⟩)) W := by
  have hs : ∀ W, (sizeOf 43).run Tryd.prog W = .ok 6 W := fun W => by kernel_rfl
  have h1 : (0 : Int) ≤ (k : Int) ∧ (k : Int) < ((6 : Nat) : Int) := by omega
  simp only [Instr.indexAt, Instr.sureAddr, asIntOf, Sem.run_bind, Sem.run_pure, Result.andThen_ok, run_underlying mat_desc, if_pos h1, hs, Int.toNat_natCast, Addr.add, Nat.zero_add]
  congr 3
  split
  · rename_i e; rw [e]
  · rfl
theorem addr_row (g o k : Nat) (hk : k < 6) (W : World) : (Instr.indexAt 43 (.pointer (some ⟨g, o, none⟩)) (.int .i64 k)).run Tryd.prog W = .ok (.pointer (some ⟨g, o + k, none⟩)) W := by
  have hs : ∀ W, (sizeOf 3).run Tryd.prog W = .ok 1 W := fun W => by kernel_rfl
  have h1 : (0 : Int) ≤ (k : Int) ∧ (k : Int) < ((6 : Nat) : Int) := by omega
  simp only [Instr.indexAt, Instr.sureAddr, asIntOf, Sem.run_bind, Sem.run_pure, Result.andThen_ok, run_underlying row_desc, if_pos h1, hs, Int.toNat_natCast, Addr.add, Nat.mul_one]
  congr 3
  split
  · rename_i e; rw [e, Nat.add_zero]
  · rfl
theorem matC_zero : matC (fun _ _ => 0) = #[.int .i64 0, .int .i64 0, .int .i64 0, .int .i64 0, .int .i64 0, .int .i64 0, .int .i64 0, .int .i64 0, .int .i64 0, .int .i64 0, .int .i64 0, .int .i64 0, .int .i64 0, .int .i64 0, .int .i64 0, .int .i64 0, .int .i64 0, .int .i64 0, .int .i64 0, .int .i64 0, .int .i64 0, .int .i64 0, .int .i64 0, .int .i64 0, .int .i64 0, .int .i64 0, .int .i64 0, .int .i64 0, .int .i64 0, .int .i64 0, .int .i64 0, .int .i64 0, .int .i64 0, .int .i64 0, .int .i64 0, .int .i64 0] := by kernel_rfl
theorem rowC_zero : rowC (fun _ => 0) = #[.int .i64 0, .int .i64 0, .int .i64 0, .int .i64 0, .int .i64 0, .int .i64 0] := by kernel_rfl

/-- A row out of the box of a matrix. -/
theorem load_matrow {w : World} {g k : Nat} {m : Mx} (hk : k < 6) (h : MatAt w g m) : (loadVar 43 ⟨g, k * 6, none⟩).run Tryd.prog w = .ok (.agg (rowC (m k))) w := by
  have hs : (sizeOf 43).run Tryd.prog w = .ok 6 w := by kernel_rfl
  have ha : (isAgg 43).run Tryd.prog w = .ok true w := by kernel_rfl
  have hl := run_loadCells_list (P := Tryd.prog) w ⟨g, k * 6, none⟩ (rowC (m k)).toList (fun j v hv => by
    have hj : j < 6 := by
      have := (List.getElem?_eq_some_iff.1 hv).1
      rw [Array.length_toList, rowC_size] at this
      exact this
    have hadd : (⟨g, k * 6, none⟩ : Addr).add j = ⟨g, k * 6 + j, none⟩ := by unfold Addr.add; split <;> simp_all
    rw [hadd, h.cell hk hj, ← rowC_get (m k) hj]
    simpa using hv)
  rw [Array.length_toList, rowC_size, Array.toArray_toList] at hl
  simp only [loadVar, Sem.run_bind, ha, Result.andThen_ok, if_true, hs, hl, Sem.run_pure]

section
variable {ops : Array Oper} {rest : List Oper} {o : Oper} {a : Act} {w : World} {Q : Exit → Act → World → Prop}
theorem step_load_mat (hgd : o.guard = none) (x : Operand) (ho : o.op = .load 45 x) (g : Nat) (m : Mx) (hx : a.eval x = .pointer (some ⟨g, 0, none⟩)) (h : MatAt w g m)
    (hK : wpList Tryd.prog ops Q rest (a.put o.dst (.agg (matC m))) w) : wpList Tryd.prog ops Q (o :: rest) a w :=
  wpList_load_row hgd _ x ho g hx _ _ _ _ h mat_desc rfl (by rw [matC_size]; exact mat_info) hK
theorem step_load_row (hgd : o.guard = none) (x : Operand) (ho : o.op = .load 43 x) (g : Nat) (r : Nat → Int) (hx : a.eval x = .pointer (some ⟨g, 0, none⟩)) (h : RowAt w g r)
    (hK : wpList Tryd.prog ops Q rest (a.put o.dst (.agg (rowC r))) w) : wpList Tryd.prog ops Q (o :: rest) a w :=
  wpList_load_row hgd _ x ho g hx _ _ _ _ h row_desc rfl (by rw [rowC_size]; exact row_info) hK
theorem step_load_matrow (hgd : o.guard = none) (x : Operand) (ho : o.op = .load 43 x) (g k : Nat) (hk : k < 6) (m : Mx) (hx : a.eval x = .pointer (some ⟨g, k * 6, none⟩)) (h : MatAt w g m)
    (hK : wpList Tryd.prog ops Q rest (a.put o.dst (.agg (rowC (m k)))) w) : wpList Tryd.prog ops Q (o :: rest) a w :=
  wpList_plain hgd fun _ hK' => by
    unfold Oper.wp execOp
    simp only [ho, hx, Instr.loadAt, Instr.sureAddr, Sem.run_bind, Sem.run_pure, Result.andThen_ok, load_matrow hk h]
    exact hK' _ _ hK
theorem step_store_mat (hgd : o.guard = none) (x y : Operand) (ho : o.op = .store 45 x y) (g : Nat) (m n : Mx) (hx : a.eval x = .pointer (some ⟨g, 0, none⟩)) (hy : a.eval y = .agg (matC n)) (h : MatAt w g m)
    (hK : wpList Tryd.prog ops Q rest (a.put o.dst undef) (w.setRow g (matC n))) : wpList Tryd.prog ops Q (o :: rest) a w :=
  wpList_store_row hgd _ x y ho g _ hx hy _ _ h (by rw [matC_size]; exact mat_info) (by rw [matC_size, matC_size]) (matC_one n) hK
theorem step_store_row (hgd : o.guard = none) (x y : Operand) (ho : o.op = .store 43 x y) (g : Nat) (r s : Nat → Int) (hx : a.eval x = .pointer (some ⟨g, 0, none⟩)) (hy : a.eval y = .agg (rowC s)) (h : RowAt w g r)
    (hK : wpList Tryd.prog ops Q rest (a.put o.dst undef) (w.setRow g (rowC s))) : wpList Tryd.prog ops Q (o :: rest) a w :=
  wpList_store_row hgd _ x y ho g _ hx hy _ _ h (by rw [rowC_size]; exact row_info) (by rw [rowC_size, rowC_size]) (rowC_one s) hK
theorem step_alloc_mat (hgd : o.guard = none) (ho : o.op = .alloc 45)
    (hK : wpList Tryd.prog ops Q rest (a.put o.dst (.pointer (some ⟨w.heap.size, 0, none⟩))) (w.alloc (.cells (matC fun _ _ => 0) 45))) : wpList Tryd.prog ops Q (o :: rest) a w :=
  wpList_plain hgd fun _ hK' => by
    have h : (Instr.alloc 45 true (.tuple #[])).run Tryd.prog w = .ok (.pointer (some ⟨w.heap.size, 0, none⟩)) (w.alloc (.cells (matC fun _ _ => 0) 45)) := by rw [matC_zero]; rfl
    unfold Oper.wp execOp
    simp only [ho, h, Sem.run_bind, Sem.run_pure, Result.andThen_ok]
    exact hK' _ _ hK
theorem step_alloc_row (hgd : o.guard = none) (ho : o.op = .alloc 43)
    (hK : wpList Tryd.prog ops Q rest (a.put o.dst (.pointer (some ⟨w.heap.size, 0, none⟩))) (w.alloc (.cells (rowC fun _ => 0) 43))) : wpList Tryd.prog ops Q (o :: rest) a w :=
  wpList_plain hgd fun _ hK' => by
    have h : (Instr.alloc 43 true (.tuple #[])).run Tryd.prog w = .ok (.pointer (some ⟨w.heap.size, 0, none⟩)) (w.alloc (.cells (rowC fun _ => 0) 43)) := by rw [rowC_zero]; rfl
    unfold Oper.wp execOp
    simp only [ho, h, Sem.run_bind, Sem.run_pure, Result.andThen_ok]
    exact hK' _ _ hK
end
end Go.Proofs.YtogmfbhnnnoipaaDoor
