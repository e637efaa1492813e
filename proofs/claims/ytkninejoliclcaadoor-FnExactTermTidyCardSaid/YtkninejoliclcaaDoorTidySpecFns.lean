/- The model's TermTidy at each text. -/
import Derived.Test.YtkninejoliclcaaDoorSpecTermOf
import Derived.Test.YtkninejoliclcaaDoorSpecTidy
import Derived.Test.YtkninejoliclcaaDoorSpecText
namespace Go.Proofs.YtkninejoliclcaaDoor
open Go Go.RowKit
set_option linter.unusedVariables false
set_option maxRecDepth 100000

set_option maxHeartbeats 1000000 in
theorem specTidy_no (l : List UInt8) (ht : termOf l = none) (w : World) : Calls Tryd.prog 17 #[.string ⟨l.toArray⟩] w (Gave w (.tuple #[.string ⟨#[]⟩, .bool false])) := by
  have H := Lib.hid (fun w => specOf_any l w)
  rw [ht] at H
  clear ht
  go_enter Tryd.func17, Tryd.ntmps17
  go_wp2_with fail
  refine (H.out _).mono ?_
  rintro e w1 ⟨⟨c, A, k, k', rfl⟩, b1⟩
  go_wp2
  go_ret2
  exact ⟨rfl, bl_alloc b1⟩
set_option maxHeartbeats 1000000 in
theorem specTidy_yes (l : List UInt8) (t : Tm) (ht : termOf l = some t) (w : World) : Calls Tryd.prog 17 #[.string ⟨l.toArray⟩] w (Gave w (.tuple #[.string ⟨(t.td false).txt.toArray⟩, .bool true])) := by
  have ho := (termOf_ones l t ht).1
  have H := Lib.hid (fun w => specOf_any l w)
  rw [ht] at H
  have HT := Lib.hid (fun w c A n k h => specTidy_any t false w c A n k h)
  have HF := Lib.hid (fun w c A n k h => specText_any (t.td false) w c A n k h (t.td_tidy false) (by rw [t.td_ones]; exact ho))
  obtain ⟨x, ex⟩ : ∃ x, x = (t.td false).txt := ⟨_, rfl⟩
  rw [← ex] at HF ⊢
  clear ht ho ex
  go_enter Tryd.func17, Tryd.ntmps17
  go_wp2_with fail
  refine (H.out _).mono ?_
  rintro e w1 ⟨⟨c, A, k, k', rfl, t1⟩, b1⟩
  have T1 := Lib.hid (t1.alloc (o := .cells #[.int .u8 c, .slice A k k'] 35))
  clear t1
  go_wp2_with fail
  refine (HT.out _ _ _ _ _ (T1.out.low (Nat.zero_le _))).mono ?_
  rintro e w2 ⟨c2, A2, m, m', rfl, t2, b2⟩
  have T2 := Lib.hid t2
  clear t2
  go_wp2_with fail
  refine (HF.out _ _ _ _ _ (T2.out.low (Nat.zero_le _))).mono ?_
  rintro e w3 ⟨rfl, b3⟩
  go_wp2
  go_ret2
  exact ⟨rfl, bl_then b1 (bl_then (below_alloc_then b2) b3)⟩
end Go.Proofs.YtkninejoliclcaaDoor
