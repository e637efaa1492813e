/- The model's TermIn, TermColours and TermFull at each text. -/
import Derived.Test.YtkninejoliclcaaDoorSpecTermOf
import Derived.Test.YtkninejoliclcaaDoorSpecTidy
import Derived.Test.YtkninejoliclcaaDoorSpecFold
namespace Go.Proofs.YtkninejoliclcaaDoor
open Go Go.RowKit
set_option linter.unusedVariables false
set_option maxRecDepth 100000

set_option maxHeartbeats 1000000 in
theorem specIn_any (l : List UInt8) (w : World) : Calls Tryd.prog 10 #[.string ⟨l.toArray⟩] w (Gave w (.bool (termOf l).isSome)) := by
  have H := Lib.hid (fun w => specOf_any l w)
  obtain ⟨b, hb⟩ : ∃ b, b = (termOf l).isSome := ⟨_, rfl⟩
  cases ht : termOf l with
  | none =>
    rw [ht] at H
    clear hb ht
    show Calls _ _ _ w (Gave w (.bool false))
    go_enter Tryd.func10, Tryd.ntmps10
    go_wp2_with fail
    refine (H.out _).mono ?_
    rintro e w1 ⟨⟨c, A, k, k', rfl⟩, b1⟩
    go_wp2
    go_ret
    exact ⟨rfl, bl_alloc b1⟩
  | some t =>
    rw [ht] at H
    clear hb ht
    show Calls _ _ _ w (Gave w (.bool true))
    go_enter Tryd.func10, Tryd.ntmps10
    go_wp2_with fail
    refine (H.out _).mono ?_
    rintro e w1 ⟨⟨c, A, k, k', rfl, t1⟩, b1⟩
    clear t1
    go_wp2
    go_ret
    exact ⟨rfl, bl_alloc b1⟩

set_option maxHeartbeats 1000000 in
theorem specColours_no (l : List UInt8) (ht : termOf l = none) (w : World) : Calls Tryd.prog 23 #[.string ⟨l.toArray⟩] w (Gave w (.tuple #[.int .i64 0, .bool false])) := by
  have H := Lib.hid (fun w => specOf_any l w)
  rw [ht] at H
  clear ht
  go_enter Tryd.func23, Tryd.ntmps23
  go_wp2_with fail
  refine (H.out _).mono ?_
  rintro e w1 ⟨⟨c, A, k, k', rfl⟩, b1⟩
  go_wp2
  go_ret2
  exact ⟨rfl, bl_alloc b1⟩
set_option maxHeartbeats 1000000 in
theorem specColours_yes (l : List UInt8) (t : Tm) (ht : termOf l = some t) (w : World) : Calls Tryd.prog 23 #[.string ⟨l.toArray⟩] w (Gave w (.tuple #[.int .i64 ((t.td false).fo true : Nat), .bool true])) := by
  have ho := (termOf_ones l t ht).1
  have H := Lib.hid (fun w => specOf_any l w)
  rw [ht] at H
  have HT := Lib.hid (fun w c A n k h => specTidy_any t false w c A n k h)
  have HF := Lib.hid (fun w B c A n k h => specFold_any true (t.td false) w B c A n k h (t.td_tidy false) (by rw [t.td_ones]; exact ho))
  rw [show sgI true = 42 from rfl] at HF
  obtain ⟨x, ex⟩ : ∃ x, x = (t.td false).fo true := ⟨_, rfl⟩
  rw [← ex] at HF ⊢
  clear ht ho ex
  go_enter Tryd.func23, Tryd.ntmps23
  go_wp2_with fail
  refine (H.out _).mono ?_
  rintro e w1 ⟨⟨c, A, k, k', rfl, t1⟩, b1⟩
  have T1 := Lib.hid (t1.alloc (o := .cells #[.int .u8 c, .slice A k k'] 35))
  clear t1
  go_wp2_with fail
  refine (HT.out _ _ _ _ _ (T1.out.low (Nat.zero_le _))).mono ?_
  rintro e w2 ⟨c2, A2, m, m', rfl, t2, b2⟩
  have T2 := Lib.hid t2
  clear t2
  go_wp2_with fail
  refine (HF.out _ _ _ _ _ _ T2.out).mono ?_
  rintro e w3 ⟨rfl, b3⟩
  go_wp2
  go_ret2
  exact ⟨rfl, bl_then b1 (bl_then (below_alloc_then b2) b3)⟩

set_option maxHeartbeats 1000000 in
theorem specFull_no (l : List UInt8) (ht : termOf l = none) (w : World) : Calls Tryd.prog 25 #[.string ⟨l.toArray⟩] w (Gave w (.tuple #[.int .i64 0, .bool false])) := by
  have H := Lib.hid (fun w => specOf_any l w)
  rw [ht] at H
  clear ht
  go_enter Tryd.func25, Tryd.ntmps25
  go_wp2_with fail
  refine (H.out _).mono ?_
  rintro e w1 ⟨⟨c, A, k, k', rfl⟩, b1⟩
  go_wp2
  go_ret2
  exact ⟨rfl, bl_alloc b1⟩
set_option maxHeartbeats 1000000 in
theorem specFull_yes (l : List UInt8) (t : Tm) (ht : termOf l = some t) (w : World) : Calls Tryd.prog 25 #[.string ⟨l.toArray⟩] w (Gave w (.tuple #[.int .i64 ((t.td false).fo false : Nat), .bool true])) := by
  have ho := (termOf_ones l t ht).1
  have H := Lib.hid (fun w => specOf_any l w)
  rw [ht] at H
  have HT := Lib.hid (fun w c A n k h => specTidy_any t false w c A n k h)
  have HF := Lib.hid (fun w B c A n k h => specFold_any false (t.td false) w B c A n k h (t.td_tidy false) (by rw [t.td_ones]; exact ho))
  rw [show sgI false = 43 from rfl] at HF
  obtain ⟨x, ex⟩ : ∃ x, x = (t.td false).fo false := ⟨_, rfl⟩
  rw [← ex] at HF ⊢
  clear ht ho ex
  go_enter Tryd.func25, Tryd.ntmps25
  go_wp2_with fail
  refine (H.out _).mono ?_
  rintro e w1 ⟨⟨c, A, k, k', rfl, t1⟩, b1⟩
  have T1 := Lib.hid (t1.alloc (o := .cells #[.int .u8 c, .slice A k k'] 35))
  clear t1
  go_wp2_with fail
  refine (HT.out _ _ _ _ _ (T1.out.low (Nat.zero_le _))).mono ?_
  rintro e w2 ⟨c2, A2, m, m', rfl, t2, b2⟩
  have T2 := Lib.hid t2
  clear t2
  go_wp2_with fail
  refine (HF.out _ _ _ _ _ _ T2.out).mono ?_
  rintro e w3 ⟨rfl, b3⟩
  go_wp2
  go_ret2
  exact ⟨rfl, bl_then b1 (bl_then (below_alloc_then b2) b3)⟩

end Go.Proofs.YtkninejoliclcaaDoor
