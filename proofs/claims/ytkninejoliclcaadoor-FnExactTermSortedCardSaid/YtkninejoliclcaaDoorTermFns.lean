/- The program's TermTidy, TermIn, TermColours and TermFull at each text. -/
import Derived.Test.YtkninejoliclcaaDoorReadTerm
import Derived.Test.YtkninejoliclcaaDoorAsFn
import Derived.Test.YtkninejoliclcaaDoorTidyFn
import Derived.Test.YtkninejoliclcaaDoorTextFn
import Derived.Test.YtkninejoliclcaaDoorReckonFn
namespace Go.Proofs.YtkninejoliclcaaDoor
open Go Go.RowKit
set_option linter.unusedVariables false
set_option maxRecDepth 100000

set_option maxHeartbeats 4000000 in
theorem implTidy_yes (l : List UInt8) (t : Tm) (ht : termOf l = some t) (w : World) : Calls Tryd.prog 18 #[.string ⟨l.toArray⟩] w (Gave w (.tuple #[.string ⟨(t.td false).txt.toArray⟩, .bool true])) := by
  have ho := (termOf_ones l t ht).1
  have HR := Lib.hid (fun w => readTerm_any l w)
  rw [ht] at HR
  have HT := Lib.hid (fun w => tidied_any t false w)
  have HX := Lib.hid (fun w => tidyText_any (t.td false) w (t.td_tidy false) (by rw [t.td_ones]; exact ho))
  obtain ⟨x, ex⟩ : ∃ x, x = (t.td false).txt := ⟨_, rfl⟩
  rw [← ex] at HX ⊢
  clear ex ho ht
  go_enter Tryd.func18, Tryd.ntmps18
  go_wp2_with (first
    | (go_at_call 43; refine (HR.out _).mono ?_; rintro e w1 ⟨rfl, b1⟩; have y1 : w1.cell? ⟨w.heap.size, 0, none⟩ = some (.func (.func 33) #[] #[]) := (b1.cell (p := ⟨w.heap.size, 0, none⟩) (by simp)).trans (by simp))
    | (go_at_call 44; refine (as_nil _ _).mono ?_; rintro e w2 ⟨rfl, rfl⟩)
    | (go_at_call 47; refine (HT.out _).mono ?_; rintro e w3 ⟨rfl, b3⟩)
    | (go_at_call 33; refine (HX.out _).mono ?_; rintro e w4 ⟨rfl, b4⟩)
    | go_in)
  obtain ⟨W, eW⟩ : ∃ W, W = w1.alloc (Obj.cells #[.string ⟨#[]⟩] 62) := ⟨_, rfl⟩
  have s1 : w.heap.size < w1.heap.size := Nat.lt_of_lt_of_le (by simp) b1.size
  have z0 : W.cell? ⟨w.heap.size, 0, none⟩ = some (.func (.func 33) #[] #[]) := by rw [eW, World.cell?_alloc_lt _ _ ⟨w.heap.size, 0, none⟩ s1]; exact y1
  have sW : w.heap.size < W.heap.size := by rw [eW]; simp; omega
  have BW : Hid (Below w.heap.size w W) := Lib.hid (by rw [eW]; exact (below_alloc_then b1).alloc (Nat.le_of_lt s1) _)
  rw [← eW]
  clear eW b1 y1 s1
  generalize w.heap.size = s0 at z0 sW ⊢
  go_region_with (first
    | (go_at_call 47; refine (HT.out _).mono ?_; rintro e w3 ⟨rfl, b3⟩; have y0 : w3.cell? ⟨s0, 0, none⟩ = some (.func (.func 33) #[] #[]) := (b3.cell (p := ⟨s0, 0, none⟩) sW).trans z0)
    | (go_at_call 33; refine (HX.out _).mono ?_; rintro e w4 ⟨rfl, b4⟩))
  all_goals go_wp2
  all_goals go_ret2
  all_goals exact ⟨rfl, BW.out.trans ((below_drew (b3.trans (b4.mono b3.size))).mono BW.out.size)⟩

set_option maxHeartbeats 4000000 in
theorem implTidy_no (l : List UInt8) (ht : termOf l = none) (w : World) (hE : ErrT w) : Calls Tryd.prog 18 #[.string ⟨l.toArray⟩] w (Gave w (.tuple #[.string ⟨#[]⟩, .bool false])) := by
  have HR := Lib.hid (fun w => readTerm_any l w)
  rw [ht] at HR
  have hlt := hE.lt
  clear ht
  go_enter Tryd.func18, Tryd.ntmps18
  go_wp2_with (first
    | (go_at_call 43; refine (HR.out _).mono ?_; rintro e w1 ⟨⟨x, rfl⟩, b1⟩)
    | (go_at_call 44; refine (as_hit _ _ (.string ⟨#[]⟩) _ ?_ ?_ ?_).mono ?_; · exact (hE.below ((below_alloc_then b1).alloc (Nat.le_of_lt (Nat.lt_of_lt_of_le (by simp) b1.size)) _) hlt)
       · simp
       · simp
       rintro e w2 ⟨rfl, rfl⟩)
    | go_in)
  go_ret2
  have s1 : w.heap.size < w1.heap.size := Nat.lt_of_lt_of_le (by simp) b1.size
  refine ⟨rfl, ((below_alloc_then b1).alloc (Nat.le_of_lt s1) _).trans (asW_below _ _ _ _ (by simp; omega) (by simp; omega))⟩

set_option maxHeartbeats 1000000 in
theorem colours_any (t : Tm) (ht : t.tidy) (ho : t.ones ≤ 6) (w : World) : Calls Tryd.prog 38 #[ival t] w (Gave w (.int .i64 (t.fo true : Nat))) := by
  have H := Lib.hid (fun w => reckoned_star t w ht ho)
  go_enter Tryd.func38, Tryd.ntmps38
  go_wp2_with fail
  refine (H.out _).mono ?_
  rintro e w1 ⟨rfl, b1⟩
  go_wp2
  go_ret
  exact ⟨rfl, b1⟩
set_option maxHeartbeats 1000000 in
theorem free_any (t : Tm) (ht : t.tidy) (ho : t.ones ≤ 6) (w : World) : Calls Tryd.prog 39 #[ival t] w (Gave w (.int .i64 (t.fo false : Nat))) := by
  have H := Lib.hid (fun w => reckoned_plus t w ht ho)
  go_enter Tryd.func39, Tryd.ntmps39
  go_wp2_with fail
  refine (H.out _).mono ?_
  rintro e w1 ⟨rfl, b1⟩
  go_wp2
  go_ret
  exact ⟨rfl, b1⟩
set_option maxHeartbeats 4000000 in
theorem implColours_yes (l : List UInt8) (t : Tm) (ht : termOf l = some t) (w : World) : Calls Tryd.prog 24 #[.string ⟨l.toArray⟩] w (Gave w (.tuple #[.int .i64 ((t.td false).fo true : Nat), .bool true])) := by
  have ho := (termOf_ones l t ht).1
  have HR := Lib.hid (fun w => readTerm_any l w)
  rw [ht] at HR
  have HT := Lib.hid (fun w => tidied_any t false w)
  have HX := Lib.hid (fun w => colours_any (t.td false) (t.td_tidy false) (by rw [t.td_ones]; exact ho) w)
  obtain ⟨x, ex⟩ : ∃ x, x = (t.td false).fo true := ⟨_, rfl⟩
  rw [← ex] at HX ⊢
  clear ex ho ht
  go_enter Tryd.func24, Tryd.ntmps24
  go_wp2_with (first
    | (go_at_call 43; refine (HR.out _).mono ?_; rintro e w1 ⟨rfl, b1⟩; have y1 : w1.cell? ⟨w.heap.size, 0, none⟩ = some (.func (.func 38) #[] #[]) := (b1.cell (p := ⟨w.heap.size, 0, none⟩) (by simp)).trans (by simp))
    | (go_at_call 44; refine (as_nil _ _).mono ?_; rintro e w2 ⟨rfl, rfl⟩)
    | (go_at_call 47; refine (HT.out _).mono ?_; rintro e w3 ⟨rfl, b3⟩)
    | (go_at_call 38; refine (HX.out _).mono ?_; rintro e w4 ⟨rfl, b4⟩)
    | go_in)
  obtain ⟨W, eW⟩ : ∃ W, W = w1.alloc (Obj.cells #[.string ⟨#[]⟩] 62) := ⟨_, rfl⟩
  have s1 : w.heap.size < w1.heap.size := Nat.lt_of_lt_of_le (by simp) b1.size
  have z0 : W.cell? ⟨w.heap.size, 0, none⟩ = some (.func (.func 38) #[] #[]) := by rw [eW, World.cell?_alloc_lt _ _ ⟨w.heap.size, 0, none⟩ s1]; exact y1
  have sW : w.heap.size < W.heap.size := by rw [eW]; simp; omega
  have BW : Hid (Below w.heap.size w W) := Lib.hid (by rw [eW]; exact (below_alloc_then b1).alloc (Nat.le_of_lt s1) _)
  rw [← eW]
  clear eW b1 y1 s1
  generalize w.heap.size = s0 at z0 sW ⊢
  go_region_with (first
    | (go_at_call 47; refine (HT.out _).mono ?_; rintro e w3 ⟨rfl, b3⟩; have y0 : w3.cell? ⟨s0, 0, none⟩ = some (.func (.func 38) #[] #[]) := (b3.cell (p := ⟨s0, 0, none⟩) sW).trans z0)
    | (go_at_call 38; refine (HX.out _).mono ?_; rintro e w4 ⟨rfl, b4⟩))
  all_goals go_wp2
  all_goals go_ret2
  all_goals exact ⟨rfl, BW.out.trans ((below_drew (b3.trans (b4.mono b3.size))).mono BW.out.size)⟩

set_option maxHeartbeats 4000000 in
theorem implColours_no (l : List UInt8) (ht : termOf l = none) (w : World) (hE : ErrT w) : Calls Tryd.prog 24 #[.string ⟨l.toArray⟩] w (Gave w (.tuple #[.int .i64 0, .bool false])) := by
  have HR := Lib.hid (fun w => readTerm_any l w)
  rw [ht] at HR
  have hlt := hE.lt
  clear ht
  go_enter Tryd.func24, Tryd.ntmps24
  go_wp2_with (first
    | (go_at_call 43; refine (HR.out _).mono ?_; rintro e w1 ⟨⟨x, rfl⟩, b1⟩)
    | (go_at_call 44; refine (as_hit _ _ (.string ⟨#[]⟩) _ ?_ ?_ ?_).mono ?_; · exact (hE.below ((below_alloc_then b1).alloc (Nat.le_of_lt (Nat.lt_of_lt_of_le (by simp) b1.size)) _) hlt)
       · simp
       · simp
       rintro e w2 ⟨rfl, rfl⟩)
    | go_in)
  go_ret2
  have s1 : w.heap.size < w1.heap.size := Nat.lt_of_lt_of_le (by simp) b1.size
  refine ⟨rfl, ((below_alloc_then b1).alloc (Nat.le_of_lt s1) _).trans (asW_below _ _ _ _ (by simp; omega) (by simp; omega))⟩

set_option maxHeartbeats 4000000 in
theorem implFull_yes (l : List UInt8) (t : Tm) (ht : termOf l = some t) (w : World) : Calls Tryd.prog 26 #[.string ⟨l.toArray⟩] w (Gave w (.tuple #[.int .i64 ((t.td false).fo false : Nat), .bool true])) := by
  have ho := (termOf_ones l t ht).1
  have HR := Lib.hid (fun w => readTerm_any l w)
  rw [ht] at HR
  have HT := Lib.hid (fun w => tidied_any t false w)
  have HX := Lib.hid (fun w => free_any (t.td false) (t.td_tidy false) (by rw [t.td_ones]; exact ho) w)
  obtain ⟨x, ex⟩ : ∃ x, x = (t.td false).fo false := ⟨_, rfl⟩
  rw [← ex] at HX ⊢
  clear ex ho ht
  go_enter Tryd.func26, Tryd.ntmps26
  go_wp2_with (first
    | (go_at_call 43; refine (HR.out _).mono ?_; rintro e w1 ⟨rfl, b1⟩; have y1 : w1.cell? ⟨w.heap.size, 0, none⟩ = some (.func (.func 39) #[] #[]) := (b1.cell (p := ⟨w.heap.size, 0, none⟩) (by simp)).trans (by simp))
    | (go_at_call 44; refine (as_nil _ _).mono ?_; rintro e w2 ⟨rfl, rfl⟩)
    | (go_at_call 47; refine (HT.out _).mono ?_; rintro e w3 ⟨rfl, b3⟩)
    | (go_at_call 39; refine (HX.out _).mono ?_; rintro e w4 ⟨rfl, b4⟩)
    | go_in)
  obtain ⟨W, eW⟩ : ∃ W, W = w1.alloc (Obj.cells #[.string ⟨#[]⟩] 62) := ⟨_, rfl⟩
  have s1 : w.heap.size < w1.heap.size := Nat.lt_of_lt_of_le (by simp) b1.size
  have z0 : W.cell? ⟨w.heap.size, 0, none⟩ = some (.func (.func 39) #[] #[]) := by rw [eW, World.cell?_alloc_lt _ _ ⟨w.heap.size, 0, none⟩ s1]; exact y1
  have sW : w.heap.size < W.heap.size := by rw [eW]; simp; omega
  have BW : Hid (Below w.heap.size w W) := Lib.hid (by rw [eW]; exact (below_alloc_then b1).alloc (Nat.le_of_lt s1) _)
  rw [← eW]
  clear eW b1 y1 s1
  generalize w.heap.size = s0 at z0 sW ⊢
  go_region_with (first
    | (go_at_call 47; refine (HT.out _).mono ?_; rintro e w3 ⟨rfl, b3⟩; have y0 : w3.cell? ⟨s0, 0, none⟩ = some (.func (.func 39) #[] #[]) := (b3.cell (p := ⟨s0, 0, none⟩) sW).trans z0)
    | (go_at_call 39; refine (HX.out _).mono ?_; rintro e w4 ⟨rfl, b4⟩))
  all_goals go_wp2
  all_goals go_ret2
  all_goals exact ⟨rfl, BW.out.trans ((below_drew (b3.trans (b4.mono b3.size))).mono BW.out.size)⟩

set_option maxHeartbeats 4000000 in
theorem implFull_no (l : List UInt8) (ht : termOf l = none) (w : World) (hE : ErrT w) : Calls Tryd.prog 26 #[.string ⟨l.toArray⟩] w (Gave w (.tuple #[.int .i64 0, .bool false])) := by
  have HR := Lib.hid (fun w => readTerm_any l w)
  rw [ht] at HR
  have hlt := hE.lt
  clear ht
  go_enter Tryd.func26, Tryd.ntmps26
  go_wp2_with (first
    | (go_at_call 43; refine (HR.out _).mono ?_; rintro e w1 ⟨⟨x, rfl⟩, b1⟩)
    | (go_at_call 44; refine (as_hit _ _ (.string ⟨#[]⟩) _ ?_ ?_ ?_).mono ?_; · exact (hE.below ((below_alloc_then b1).alloc (Nat.le_of_lt (Nat.lt_of_lt_of_le (by simp) b1.size)) _) hlt)
       · simp
       · simp
       rintro e w2 ⟨rfl, rfl⟩)
    | go_in)
  go_ret2
  have s1 : w.heap.size < w1.heap.size := Nat.lt_of_lt_of_le (by simp) b1.size
  refine ⟨rfl, ((below_alloc_then b1).alloc (Nat.le_of_lt s1) _).trans (asW_below _ _ _ _ (by simp; omega) (by simp; omega))⟩

set_option maxHeartbeats 1000000 in
theorem implIn_yes (l : List UInt8) (t : Tm) (ht : termOf l = some t) (w : World) : Calls Tryd.prog 11 #[.string ⟨l.toArray⟩] w (Gave w (.bool true)) := by
  have H := Lib.hid (fun w => implTidy_yes l t ht w)
  clear ht
  go_enter Tryd.func11, Tryd.ntmps11
  go_wp2_with fail
  refine (H.out _).mono ?_
  rintro e w1 ⟨rfl, b1⟩
  go_wp2
  go_ret
  exact ⟨rfl, b1⟩
set_option maxHeartbeats 1000000 in
theorem implIn_no (l : List UInt8) (ht : termOf l = none) (w : World) (hE : ErrT w) : Calls Tryd.prog 11 #[.string ⟨l.toArray⟩] w (Gave w (.bool false)) := by
  have H := Lib.hid (implTidy_no l ht w hE)
  clear ht hE
  go_enter Tryd.func11, Tryd.ntmps11
  go_wp2_with fail
  refine H.out.mono ?_
  rintro e w1 ⟨rfl, b1⟩
  go_wp2
  go_ret
  exact ⟨rfl, b1⟩

end Go.Proofs.YtkninejoliclcaaDoor
