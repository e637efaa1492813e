/- The program's TermSorted and TermSame at each text. -/
import Derived.Test.YtkninejoliclcaaDoorTermFns
import Derived.Test.YtkninejoliclcaaDoorSortedWith
import Derived.Test.YtkninejoliclcaaDoorSortedSame
namespace Go.Proofs.YtkninejoliclcaaDoor
open Go Go.RowKit
set_option linter.unusedVariables false
set_option maxRecDepth 100000

set_option maxHeartbeats 4000000 in
theorem implSorted_yes (l : List UInt8) (t : Tm) (ht : termOf l = some t) (w : World) : Calls Tryd.prog 20 #[.string ⟨l.toArray⟩] w (Gave w (.tuple #[.string ⟨(t.td false).stx.toArray⟩, .bool true])) := by
  have ho := (termOf_ones l t ht).1
  have HR := Lib.hid (fun w => readTerm_any l w)
  rw [ht] at HR
  have HT := Lib.hid (fun w => tidied_any t false w)
  have HX := Lib.hid (fun w => sortedText_any sortsWith 6 (t.td false) w (by rw [t.td_ones]; exact ho) (t.td_tidy false) (by rw [t.td_ones]; exact ho))
  obtain ⟨x, ex⟩ : ∃ x, x = (t.td false).stx := ⟨_, rfl⟩
  rw [← ex] at HX ⊢
  clear ex ho ht
  go_enter Tryd.func20, Tryd.ntmps20
  go_wp2_with (first
    | (go_at_call 43; refine (HR.out _).mono ?_; rintro e w1 ⟨rfl, b1⟩; have y1 : w1.cell? ⟨w.heap.size, 0, none⟩ = some (.func (.func 35) #[] #[]) := (b1.cell (p := ⟨w.heap.size, 0, none⟩) (by simp)).trans (by simp))
    | (go_at_call 44; refine (as_nil _ _).mono ?_; rintro e w2 ⟨rfl, rfl⟩)
    | (go_at_call 47; refine (HT.out _).mono ?_; rintro e w3 ⟨rfl, b3⟩)
    | (go_at_call 35; refine (HX.out _).mono ?_; rintro e w4 ⟨rfl, b4⟩)
    | go_in)
  obtain ⟨W, eW⟩ : ∃ W, W = w1.alloc (Obj.cells #[.string ⟨#[]⟩] 62) := ⟨_, rfl⟩
  have s1 : w.heap.size < w1.heap.size := Nat.lt_of_lt_of_le (by simp) b1.size
  have z0 : W.cell? ⟨w.heap.size, 0, none⟩ = some (.func (.func 35) #[] #[]) := by rw [eW, World.cell?_alloc_lt _ _ ⟨w.heap.size, 0, none⟩ s1]; exact y1
  have sW : w.heap.size < W.heap.size := by rw [eW]; simp; omega
  have BW : Hid (Below w.heap.size w W) := Lib.hid (by rw [eW]; exact (below_alloc_then b1).alloc (Nat.le_of_lt s1) _)
  rw [← eW]
  clear eW b1 y1 s1
  generalize w.heap.size = s0 at z0 sW ⊢
  go_region_with (first
    | (go_at_call 47; refine (HT.out _).mono ?_; rintro e w3 ⟨rfl, b3⟩; have y0 : w3.cell? ⟨s0, 0, none⟩ = some (.func (.func 35) #[] #[]) := (b3.cell (p := ⟨s0, 0, none⟩) sW).trans z0)
    | (go_at_call 35; refine (HX.out _).mono ?_; rintro e w4 ⟨rfl, b4⟩))
  all_goals go_wp2
  all_goals go_ret2
  all_goals exact ⟨rfl, BW.out.trans ((below_drew (b3.trans (b4.mono b3.size))).mono BW.out.size)⟩

set_option maxHeartbeats 4000000 in
theorem implSorted_no (l : List UInt8) (ht : termOf l = none) (w : World) (hE : ErrT w) : Calls Tryd.prog 20 #[.string ⟨l.toArray⟩] w (Gave w (.tuple #[.string ⟨#[]⟩, .bool false])) := by
  have HR := Lib.hid (fun w => readTerm_any l w)
  rw [ht] at HR
  have hlt := hE.lt
  clear ht
  go_enter Tryd.func20, Tryd.ntmps20
  go_wp2_with (first
    | (go_at_call 43; refine (HR.out _).mono ?_; rintro e w1 ⟨⟨x, rfl⟩, b1⟩)
    | (go_at_call 44; refine (as_hit _ _ (.string ⟨#[]⟩) _ ?_ ?_ ?_).mono ?_; · exact (hE.below ((below_alloc_then b1).alloc (Nat.le_of_lt (Nat.lt_of_lt_of_le (by simp) b1.size)) _) hlt)
       · simp
       · simp
       rintro e w2 ⟨rfl, rfl⟩)
    | go_in)
  go_ret2
  have s1 : w.heap.size < w1.heap.size := Nat.lt_of_lt_of_le (by simp) b1.size
  refine ⟨rfl, ((below_alloc_then b1).alloc (Nat.le_of_lt s1) _).trans (asW_below _ _ _ _ (by simp; omega) (by simp; omega))⟩

theorem implSorted_any (l : List UInt8) (w : World) (hE : ErrT w) : Calls Tryd.prog 20 #[.string ⟨l.toArray⟩] w (Gave w (.tuple #[.string ⟨(sv (termOf l)).toArray⟩, .bool (termOf l).isSome])) := by
  cases ht : termOf l with
  | none => exact implSorted_no l ht w hE
  | some t => exact implSorted_yes l t ht w

set_option maxHeartbeats 1000000 in
theorem implSame_any (l l' : List UInt8) (w : World) (hE : ErrT w) : Calls Tryd.prog 22 #[.string ⟨l.toArray⟩, .string ⟨l'.toArray⟩] w (Gave w (.bool (sameB (termOf l) (termOf l')))) := by
  have hlt := hE.lt
  have H1 := Lib.hid (implSorted_any l w hE)
  have H2 := Lib.hid (fun w' (b : Below w.heap.size w w') => implSorted_any l' w' (hE.below b hlt))
  unfold sameB
  obtain ⟨x, ex⟩ : ∃ x, x = sv (termOf l) := ⟨_, rfl⟩
  obtain ⟨y, ey⟩ : ∃ y, y = sv (termOf l') := ⟨_, rfl⟩
  obtain ⟨p, ep⟩ : ∃ p, p = (termOf l).isSome := ⟨_, rfl⟩
  obtain ⟨q, eq⟩ : ∃ q, q = (termOf l').isSome := ⟨_, rfl⟩
  rw [← ex, ← ep] at H1
  rw [← ey, ← eq] at H2
  rw [← ex, ← ep, ← ey, ← eq]
  clear ex ey ep eq hE
  by_cases hxy : x = y
  · subst hxy
    rw [decide_eq_true rfl]
    cases p <;> cases q
    all_goals
      go_enter Tryd.func22, Tryd.ntmps22
      go_wp2_with fail
      refine H1.out.mono ?_
      rintro e w1 ⟨rfl, b1⟩
      go_wp2_with fail
      refine (H2.out w1 b1).mono ?_
      rintro e w2 ⟨rfl, b2⟩
      go_wp2
      all_goals go_ret
      all_goals exact ⟨rfl, bl_then b1 b2⟩
  · rw [decide_eq_false hxy]
    have hb : (x == y) = false := beq_false_of_ne hxy
    cases p <;> cases q
    all_goals
      go_enter Tryd.func22, Tryd.ntmps22
      go_wp2_with fail
      refine H1.out.mono ?_
      rintro e w1 ⟨rfl, b1⟩
      go_wp2_with fail
      refine (H2.out w1 b1).mono ?_
      rintro e w2 ⟨rfl, b2⟩
      go_wp2
      all_goals go_ret
      all_goals exact ⟨rfl, bl_then b1 b2⟩

end Go.Proofs.YtkninejoliclcaaDoor
