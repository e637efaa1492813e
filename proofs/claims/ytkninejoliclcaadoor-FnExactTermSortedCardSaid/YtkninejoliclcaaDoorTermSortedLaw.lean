/- The law FnExactTermSorted returns true at each text, and leaves all that was there as it was. -/
import Derived.Test.YtkninejoliclcaaDoorSortSpecFns
import Derived.Test.YtkninejoliclcaaDoorSortImplFns
namespace Go.Proofs.YtkninejoliclcaaDoor
open Go Go.RowKit
set_option linter.unusedVariables false
set_option maxRecDepth 100000

set_option maxHeartbeats 1000000 in
theorem termSortedLaw (l : List UInt8) (w : World) (hE : ErrT w) : Calls Tryd.prog 6 #[.string ⟨l.toArray⟩] w (Gave w (.bool true)) := by
  by_cases hl : 1048576 < l.length
  · have hd : decide ((1048576 : Int) < (l.length : Int)) = true := by simp; omega
    go_enter Tryd.func6, Tryd.ntmps6
    go_wp2
    go_ret
    exact ⟨rfl, Below.refl _ _⟩
  · have hd : decide ((1048576 : Int) < (l.length : Int)) = false := by simp; omega
    have hlt := hE.lt
    cases ht : termOf l with
    | none =>
      have HS := Lib.hid (specSorted_no l ht w)
      have HI := Lib.hid (fun w' (b : Below w.heap.size w w') => implSorted_no l ht w' (hE.below b hlt))
      clear ht hE
      go_enter Tryd.func6, Tryd.ntmps6
      go_wp2_with fail
      refine HS.out.mono ?_
      rintro e w1 ⟨rfl, b1⟩
      go_wp2_with fail
      refine (HI.out w1 b1).mono ?_
      rintro e w2 ⟨rfl, b2⟩
      go_wp2
      go_ret
      exact ⟨rfl, bl_then b1 b2⟩
    | some t =>
      have HS := Lib.hid (specSorted_yes l t ht w)
      have HI := Lib.hid (fun w' => implSorted_yes l t ht w')
      obtain ⟨x, ex⟩ : ∃ x, x = (t.td false).stx := ⟨_, rfl⟩
      rw [← ex] at HS HI
      clear ht hE ex
      go_enter Tryd.func6, Tryd.ntmps6
      go_wp2_with fail
      refine HS.out.mono ?_
      rintro e w1 ⟨rfl, b1⟩
      go_wp2_with fail
      refine (HI.out w1).mono ?_
      rintro e w2 ⟨rfl, b2⟩
      go_wp2
      go_ret
      exact ⟨rfl, bl_then b1 b2⟩

end Go.Proofs.YtkninejoliclcaaDoor
