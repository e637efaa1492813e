/- The model's TermSorted and TermSame at each text. -/
import Derived.Test.YtkninejoliclcaaDoorSpecTermOf
import Derived.Test.YtkninejoliclcaaDoorSpecTidy
import Derived.Test.YtkninejoliclcaaDoorSpecSortedT
import Derived.Test.YtkninejoliclcaaDoorSortedSame
import Derived.Test.YtkninejoliclcaaDoorAsFn
namespace Go.Proofs.YtkninejoliclcaaDoor
open Go Go.RowKit
set_option linter.unusedVariables false
set_option maxRecDepth 100000

set_option maxHeartbeats 1000000 in
theorem specSorted_no (l : List UInt8) (ht : termOf l = none) (w : World) : Calls Tryd.prog 19 #[.string ⟨l.toArray⟩] w (Gave w (.tuple #[.string ⟨#[]⟩, .bool false])) := by
  have H := Lib.hid (fun w => specOf_any l w)
  rw [ht] at H
  clear ht
  go_enter Tryd.func19, Tryd.ntmps19
  go_wp2_with fail
  refine (H.out _).mono ?_
  rintro e w1 ⟨⟨c, A, k, k', rfl⟩, b1⟩
  go_wp2
  go_ret2
  exact ⟨rfl, bl_alloc b1⟩
set_option maxHeartbeats 1000000 in
theorem specSorted_yes (l : List UInt8) (t : Tm) (ht : termOf l = some t) (w : World) : Calls Tryd.prog 19 #[.string ⟨l.toArray⟩] w (Gave w (.tuple #[.string ⟨(t.td false).stx.toArray⟩, .bool true])) := by
  have ho := (termOf_ones l t ht).1
  have H := Lib.hid (fun w => specOf_any l w)
  rw [ht] at H
  have HT := Lib.hid (fun w c A n k h => specTidy_any t false w c A n k h)
  have HF := Lib.hid (fun w c A n k h => specSorted_any 6 (t.td false) (by rw [t.td_ones]; exact ho) (t.td_tidy false) (by rw [t.td_ones]; exact ho) w c A n k h)
  obtain ⟨x, ex⟩ : ∃ x, x = (t.td false).stx := ⟨_, rfl⟩
  rw [← ex] at HF ⊢
  clear ht ho ex
  go_enter Tryd.func19, Tryd.ntmps19
  go_wp2_with fail
  refine (H.out _).mono ?_
  rintro e w1 ⟨⟨c, A, k, k', rfl, t1⟩, b1⟩
  have T1 := Lib.hid (t1.alloc (o := .cells #[.int .u8 c, .slice A k k'] 35))
  clear t1
  go_wp2_with fail
  refine (HT.out _ _ _ _ _ (T1.out.low (Nat.zero_le _))).mono ?_
  rintro e w2 ⟨c2, A2, m, m', rfl, t2, b2⟩
  have T2 := Lib.hid t2
  clear t2
  go_wp2_with fail
  refine (HF.out _ _ _ _ _ (T2.out.low (Nat.zero_le _))).mono ?_
  rintro e w3 ⟨rfl, b3⟩
  go_wp2
  go_ret2
  exact ⟨rfl, bl_then b1 (bl_then (below_alloc_then b2) b3)⟩
theorem specSorted_all (l : List UInt8) (w : World) (hE : ErrT w) : Calls Tryd.prog 19 #[.string ⟨l.toArray⟩] w (Gave w (.tuple #[.string ⟨(sv (termOf l)).toArray⟩, .bool (termOf l).isSome])) := by
  cases ht : termOf l with
  | none => exact specSorted_no l ht w
  | some t => exact specSorted_yes l t ht w

set_option maxHeartbeats 1000000 in
theorem specSame_any (l l' : List UInt8) (w : World) (hE : ErrT w) : Calls Tryd.prog 21 #[.string ⟨l.toArray⟩, .string ⟨l'.toArray⟩] w (Gave w (.bool (sameB (termOf l) (termOf l')))) := by
  have hlt := hE.lt
  have H1 := Lib.hid (specSorted_all l w hE)
  have H2 := Lib.hid (fun w' (b : Below w.heap.size w w') => specSorted_all l' w' (hE.below b hlt))
  unfold sameB
  obtain ⟨x, ex⟩ : ∃ x, x = sv (termOf l) := ⟨_, rfl⟩
  obtain ⟨y, ey⟩ : ∃ y, y = sv (termOf l') := ⟨_, rfl⟩
  obtain ⟨p, ep⟩ : ∃ p, p = (termOf l).isSome := ⟨_, rfl⟩
  obtain ⟨q, eq⟩ : ∃ q, q = (termOf l').isSome := ⟨_, rfl⟩
  rw [← ex, ← ep] at H1
  rw [← ey, ← eq] at H2
  rw [← ex, ← ep, ← ey, ← eq]
  clear ex ey ep eq hE
  by_cases hxy : x = y
  · subst hxy
    rw [decide_eq_true rfl]
    cases p <;> cases q
    all_goals
      go_enter Tryd.func21, Tryd.ntmps21
      go_wp2_with fail
      refine H1.out.mono ?_
      rintro e w1 ⟨rfl, b1⟩
      go_wp2_with fail
      refine (H2.out w1 b1).mono ?_
      rintro e w2 ⟨rfl, b2⟩
      go_wp2
      all_goals go_ret
      all_goals exact ⟨rfl, bl_then b1 b2⟩
  · rw [decide_eq_false hxy]
    have hb : (x == y) = false := beq_false_of_ne hxy
    cases p <;> cases q
    all_goals
      go_enter Tryd.func21, Tryd.ntmps21
      go_wp2_with fail
      refine H1.out.mono ?_
      rintro e w1 ⟨rfl, b1⟩
      go_wp2_with fail
      refine (H2.out w1 b1).mono ?_
      rintro e w2 ⟨rfl, b2⟩
      go_wp2
      all_goals go_ret
      all_goals exact ⟨rfl, bl_then b1 b2⟩
end Go.Proofs.YtkninejoliclcaaDoor
