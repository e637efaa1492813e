/- Made slices of one-celled values of any type. -/
import Derived.Test.YtdhpamemkkfhhaaDoorPlusR
namespace Go.Proofs.YtdhpamemkkfhhaaDoor
open Go.RowKit Go.WideShapes
set_option linter.unusedVariables false
set_option maxRecDepth 100000

def madeV (e : TypeId) (z : Value) (w : World) (n : Nat) : World := w.alloc (.cells (madeCells #[z] (n * 1)) e)
theorem madeV_row (e : TypeId) (z : Value) (w : World) (n : Nat) (hn : n ≤ 1048576) : VRow e (madeV e z w n) w.heap.size (.slice (some ⟨w.heap.size, 0, none⟩) n n) (List.replicate n z) := by
  have h := World.ownsRow_lit (base := w.heap.size) (e := e) (size := 1) w (madeCells #[z] (n * 1)) n (Nat.le_refl _) (by unfold maxLen; omega) (size_madeCells _ _)
  unfold VRow madeV
  have he : (madeCells #[z] (n * 1)).toList = List.replicate n z := by
    rw [Nat.mul_one, toList_madeCells_one]
  rw [he] at h
  rw [List.length_replicate]
  exact h
theorem madeV_below (e : TypeId) (z : Value) (w : World) (n : Nat) : Below w.heap.size w (madeV e z w n) := (Below.refl _ _).alloc (Nat.le_refl _) _
theorem run_make_v (t e : TypeId) (z : Value) (bytes : Nat) (ht : Tryd.prog.underlying t = some (.slice e)) (hinfo : (Tryd.prog.info? e).map (fun i => (i.zero, i.size, i.bytes)) = some (some z, 1, bytes)) (hb : bytes ≤ 24) (hz : z.cells = #[z]) (n : Nat) (hn : n ≤ 1048576) (w : World) :
    (Instr.makeSlice t (.int .i64 (n : Int)) (.int .i64 (n : Int))).run Tryd.prog w = .ok (.slice (some ⟨w.heap.size, 0, none⟩) n n) (madeV e z w n) := by
  obtain ⟨i0, hi, hz0, hz1, hz2⟩ := info_parts hinfo
  have hr := run_make (P := Tryd.prog) w t e i0 z ht hi hz0 .i64 .i64 n n (by omega) (Int.le_refl _) (by rw [hz2]; have h := Nat.mul_le_mul hb hn; have h2 : ((bytes * n : Nat) : Int) ≤ ((24 * 1048576 : Nat) : Int) := Int.ofNat_le.2 h; rw [Int.natCast_mul] at h2; omega) (by omega)
  simp only [Int.toNat_natCast, hz1, hz] at hr
  exact hr
end Go.Proofs.YtdhpamemkkfhhaaDoor
