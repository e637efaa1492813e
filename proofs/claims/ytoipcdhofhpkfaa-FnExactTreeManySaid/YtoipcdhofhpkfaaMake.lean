/- How calls end; make of a list of noughts. -/
import Derived.Test.YtoipcdhofhpkfaaHelp
import Derived.Test.YtoipcdhofhpkfaaMath
namespace Go.Proofs.Ytoipcdhofhpkfaa
open Go.RowKit
set_option linter.unusedVariables false

/-- How a call that writes one row of its caller's, and hands back nothing, ends. -/
def Wrote (w : World) (B g : Nat) (v : Value) (L : List Nat) (e : Ending) (w' : World) : Prop := (∃ u, e = .returned u) ∧ Row w' B v (ints L) ∧ w.grownBy w' (some g)

theorem grown_set {a w : World} {g : Nat} (h : a.grownBy w (some g)) (i : Nat) (u : Value) : a.grownBy (w.setCell ⟨g, i, none⟩ u) (some g) :=
  World.grownBy.trans h ⟨rfl, rfl, rfl, by simp, fun k _ hk => Below.heap_setCell _ _ _ _ (fun e => hk (by simp [e]))⟩
theorem grown_drew {a w : World} {row : Option Nat} (h : a.grownBy w row) : a.grownBy w.drew row := World.grownBy.trans h ⟨rfl, rfl, rfl, Nat.le_refl _, fun _ _ _ => rfl⟩
theorem grown_drewN {a w : World} {row : Option Nat} (h : a.grownBy w row) (n : Nat) : a.grownBy (w.drewN n) row := World.grownBy.trans h ⟨rfl, rfl, rfl, Nat.le_refl _, fun _ _ _ => rfl⟩

/-! ### make -/
def madeW (w : World) (n : Nat) : World := w.alloc (.cells (madeCells #[.int .i64 0] (n * 1)) 3)
theorem madeW_row (w : World) (n : Nat) (hn : n ≤ 1048576) : Row (madeW w n) w.heap.size (.slice (some ⟨w.heap.size, 0, none⟩) n n) (ints (List.replicate n 0)) := by
  have h := World.ownsRow_lit (base := w.heap.size) (e := 3) (size := 1) w (madeCells #[.int .i64 0] (n * 1)) n (Nat.le_refl _) (by unfold maxLen; omega) (size_madeCells _ _)
  unfold Row madeW
  have e : (madeCells #[Value.int .i64 0] (n * 1)).toList = (ints (List.replicate n 0)).map (Value.int .i64) := by
    rw [Nat.mul_one, toList_madeCells_one]
    simp [ints]
  rw [e] at h
  rw [ints_length, List.length_replicate]
  exact h
theorem madeW_below (w : World) (n : Nat) : Below w.heap.size w (madeW w n) := (Below.refl _ _).alloc (Nat.le_refl _) _
theorem madeW_size (w : World) (n : Nat) : (madeW w n).heap.size = w.heap.size + 1 := by simp [madeW]

theorem infoInt : (Try.prog.info? 3).map (fun i => (i.zero, i.size, i.bytes)) = some (some (.int .i64 0), 1, 8) := by kernel_rfl
theorem run_make_of (t : TypeId) (ht : Try.prog.underlying t = some (.slice 3)) (n : Nat) (hn : n ≤ 1048576) (w : World) :
    (Instr.makeSlice t (.int .i64 (n : Int)) (.int .i64 (n : Int))).run Try.prog w = .ok (.slice (some ⟨w.heap.size, 0, none⟩) n n) (madeW w n) := by
  obtain ⟨i0, hi, hz0, hz1, hz2⟩ := info_parts infoInt
  have hr := run_make (P := Try.prog) w t 3 i0 (.int .i64 0) ht hi hz0 .i64 .i64 n n (by omega) (Int.le_refl _) (by rw [hz2]; omega) (by omega)
  simp only [Int.toNat_natCast, hz1] at hr
  exact hr
theorem run_make_ints (n : Nat) (hn : n ≤ 1048576) : ∀ w : World, (Instr.makeSlice 25 (.int .i64 (n : Int)) (.int .i64 (n : Int))).run Try.prog w = .ok (.slice (some ⟨w.heap.size, 0, none⟩) n n) (madeW w n) := run_make_of _ Try.underlying25 n hn

/-- How a call that makes a list ends. -/
def Gave (w : World) (L : List Int) (e : Ending) (w' : World) : Prop := ∃ v, e = .returned v ∧ Row w' w.heap.size v L ∧ Below w.heap.size w w'
/-- A call that answers a number, and changes nothing. -/
def Num (w : World) (x : Nat) (e : Ending) (w' : World) : Prop := e = .returned (.int .i64 (x : Nat)) ∧ w = w'
theorem empty_row (w : World) : Row (w.alloc (.cells #[] 3)) w.heap.size (.slice (some ⟨w.heap.size, 0, none⟩) 0 0) [] :=
  World.ownsRow_lit (base := w.heap.size) (e := 3) (size := 1) w #[] 0 (Nat.le_refl _) (by unfold maxLen; omega) rfl
end Go.Proofs.Ytoipcdhofhpkfaa
