/- link: a pair is made an edge. -/
import Derived.Test.YtdhfnjpjccjkcaaHelp
import Derived.Test.YtdhfnjpjccjkcaaMath
namespace Go.Proofs.Ytdhfnjpjccjkcaa
open Go.RowKit
set_option linter.unusedVariables false

/-- How a call that writes one row of its caller's, and hands back nothing, ends. -/
def Wrote (w : World) (B g : Nat) (v : Value) (L : List Nat) (e : Ending) (w' : World) : Prop := (∃ u, e = .returned u) ∧ Row w' B v (ints L) ∧ w.grownBy w' (some g)

theorem grown_set {a w : World} {g : Nat} (h : a.grownBy w (some g)) (i : Nat) (u : Value) : a.grownBy (w.setCell ⟨g, i, none⟩ u) (some g) :=
  World.grownBy.trans h ⟨rfl, rfl, rfl, by simp, fun k _ hk => Below.heap_setCell _ _ _ _ (fun e => hk (by simp [e]))⟩
theorem grown_drew {a w : World} {row : Option Nat} (h : a.grownBy w row) : a.grownBy w.drew row := World.grownBy.trans h ⟨rfl, rfl, rfl, Nat.le_refl _, fun _ _ _ => rfl⟩
theorem grown_drewN {a w : World} {row : Option Nat} (h : a.grownBy w row) (n : Nat) : a.grownBy (w.drewN n) row := World.grownBy.trans h ⟨rfl, rfl, rfl, Nat.le_refl _, fun _ _ _ => rfl⟩

set_option maxHeartbeats 400000 in
theorem link_any (B g cap n : Nat) (L : List Nat) (a b : Nat) (w : World) (hn : n ≤ 6) (hL : L.length = n) (ha : a < n) (hb : b < n) (hab : a ≠ b) (hx : ∀ x ∈ L, x < 1048576) (h : Row w B (.slice (some ⟨g, 0, none⟩) n cap) (ints L)) :
    Calls Try.prog 21 #[.slice (some ⟨g, 0, none⟩) n cap, .int .i64 a, .int .i64 b] w (Wrote w B g (.slice (some ⟨g, 0, none⟩) n cap) (lnk L a b 1)) := by
  have h1 : (0 : Int) ≤ (a : Int) ∧ (a : Int) < (n : Int) := by omega
  have h2 : (0 : Int) ≤ (b : Int) ∧ (b : Int) < (n : Int) := by omega
  obtain ⟨x, ex⟩ : ∃ x : Nat, x = L[a]?.getD 0 := ⟨_, rfl⟩
  obtain ⟨y, ey⟩ : ∃ y : Nat, y = L[b]?.getD 0 := ⟨_, rfl⟩
  have hxa : x < 1048576 := by rw [ex, List.getElem?_eq_getElem (by omega)]; exact hx _ (List.getElem_mem _)
  have hya : y < 1048576 := by rw [ey, List.getElem?_eq_getElem (by omega)]; exact hx _ (List.getElem_mem _)
  have hca : w.cell? ⟨g, a, none⟩ = some (.int .i64 x) := by
    rw [h.cellAt a (by rw [ints_length]; omega), ints_get, ← ex]
  have hcb : w.cell? ⟨g, b, none⟩ = some (.int .i64 y) := by
    rw [h.cellAt b (by rw [ints_length]; omega), ints_get, ← ey]
  have hfa : w.frozen? ⟨g, a, none⟩ = false := h.frozenAt a (by rw [ints_length]; omega)
  have hfb : w.frozen? ⟨g, b, none⟩ = false := h.frozenAt b (by rw [ints_length]; omega)
  have hcb2 : ∀ z, (w.setCell ⟨g, a, none⟩ z).cell? ⟨g, b, none⟩ = some (.int .i64 y) := fun z => (World.cell?_setCell_other _ _ _ _ (by simp)).trans hcb
  have o1 := or_pow x b (by omega) (by omega)
  have o2 := or_pow y a (by omega) (by omega)
  have HX := Lib.hid ex
  have HY := Lib.hid ey
  have H := Lib.hid h
  have HL := Lib.hid hL
  have hd : a ≠ b := hab
  clear h ex ey hx hcb hL
  go_enter Try.func21, Try.ntmps21
  go_wp2
  go_region
  all_goals go_wp2
  all_goals go_region
  all_goals go_wp2
  all_goals go_end0
  all_goals
    refine ⟨⟨_, rfl⟩, ?_, grown_drew (grown_drew (grown_set (grown_set (World.grownBy.refl w _) _ _) _ _))⟩
    have r1 := H.out.set a (by rw [ints_length, HL.out]; omega) ((x ||| 2 ^ b : Nat) : Int)
    have r2 := r1.set b (by rw [List.length_set, ints_length, HL.out]; omega) ((y ||| 2 ^ a : Nat) : Int)
    rw [ints_set, ints_set] at r2
    have e : lnk L a b 1 = (L.set a (x ||| 2 ^ b)).set b (y ||| 2 ^ a) := by
      unfold lnk
      rw [Nat.one_mul, Nat.one_mul, ← HX.out, List.getElem?_set_ne hd, ← HY.out]
    rw [e]
    exact r2
/-! ### make -/
def madeW (w : World) (n : Nat) : World := w.alloc (.cells (madeCells #[.int .i64 0] (n * 1)) 3)
theorem madeW_row (w : World) (n : Nat) (hn : n ≤ 1048576) : Row (madeW w n) w.heap.size (.slice (some ⟨w.heap.size, 0, none⟩) n n) (ints (List.replicate n 0)) := by
  have h := World.ownsRow_lit (base := w.heap.size) (e := 3) (size := 1) w (madeCells #[.int .i64 0] (n * 1)) n (Nat.le_refl _) (by unfold maxLen; omega) (size_madeCells _ _)
  unfold Row madeW
  have e : (madeCells #[Value.int .i64 0] (n * 1)).toList = (ints (List.replicate n 0)).map (Value.int .i64) := by
    rw [Nat.mul_one, toList_madeCells_one]
    simp [ints]
  rw [e] at h
  rw [ints_length, List.length_replicate]
  exact h
theorem madeW_below (w : World) (n : Nat) : Below w.heap.size w (madeW w n) := (Below.refl _ _).alloc (Nat.le_refl _) _
theorem madeW_size (w : World) (n : Nat) : (madeW w n).heap.size = w.heap.size + 1 := by simp [madeW]

theorem infoInt : (Try.prog.info? 3).map (fun i => (i.zero, i.size, i.bytes)) = some (some (.int .i64 0), 1, 8) := by kernel_rfl
theorem run_make_of (t : TypeId) (ht : Try.prog.underlying t = some (.slice 3)) (n : Nat) (hn : n ≤ 1048576) (w : World) :
    (Instr.makeSlice t (.int .i64 (n : Int)) (.int .i64 (n : Int))).run Try.prog w = .ok (.slice (some ⟨w.heap.size, 0, none⟩) n n) (madeW w n) := by
  obtain ⟨i0, hi, hz0, hz1, hz2⟩ := info_parts infoInt
  have hr := run_make (P := Try.prog) w t 3 i0 (.int .i64 0) ht hi hz0 .i64 .i64 n n (by omega) (Int.le_refl _) (by rw [hz2]; omega) (by omega)
  simp only [Int.toNat_natCast, hz1] at hr
  exact hr
theorem run_make_ints (n : Nat) (hn : n ≤ 1048576) : ∀ w : World, (Instr.makeSlice 22 (.int .i64 (n : Int)) (.int .i64 (n : Int))).run Try.prog w = .ok (.slice (some ⟨w.heap.size, 0, none⟩) n n) (madeW w n) := run_make_of _ Try.underlying22 n hn
theorem run_make_graph (n : Nat) (hn : n ≤ 1048576) : ∀ w : World, (Instr.makeSlice 34 (.int .i64 (n : Int)) (.int .i64 (n : Int))).run Try.prog w = .ok (.slice (some ⟨w.heap.size, 0, none⟩) n n) (madeW w n) := run_make_of _ Try.underlying34 n hn

/-- How a call that makes a list ends. -/
def Gave (w : World) (L : List Int) (e : Ending) (w' : World) : Prop := ∃ v, e = .returned v ∧ Row w' w.heap.size v L ∧ Below w.heap.size w w'
end Go.Proofs.Ytdhfnjpjccjkcaa
