/- The law FnExactTermSame returns true at each two texts, and leaves all that was there as it was. -/
import Derived.Test.YtkninejoliclcaaDoorSortSpecFns
import Derived.Test.YtkninejoliclcaaDoorSortImplFns
namespace Go.Proofs.YtkninejoliclcaaDoor
open Go Go.RowKit
set_option linter.unusedVariables false
set_option maxRecDepth 100000

set_option maxHeartbeats 1000000 in
theorem termSameLaw (l l' : List UInt8) (w : World) (hE : ErrT w) : Calls Tryd.prog 7 #[.string ⟨l.toArray⟩, .string ⟨l'.toArray⟩] w (Gave w (.bool true)) := by
  have hlt := hE.lt
  have HS := Lib.hid (specSame_any l l' w hE)
  have HI := Lib.hid (fun w' (b : Below w.heap.size w w') => implSame_any l l' w' (hE.below b hlt))
  obtain ⟨r, er⟩ : ∃ r, r = sameB (termOf l) (termOf l') := ⟨_, rfl⟩
  rw [← er] at HS HI
  clear er hE
  by_cases hl : 1048576 < l.length
  · have hd : decide ((1048576 : Int) < (l.length : Int)) = true := by simp; omega
    go_enter Tryd.func7, Tryd.ntmps7
    go_wp2
    all_goals go_ret
    all_goals exact ⟨rfl, Below.refl _ _⟩
  · have hd : decide ((1048576 : Int) < (l.length : Int)) = false := by simp; omega
    by_cases hl' : 1048576 < l'.length
    · have hd' : decide ((1048576 : Int) < (l'.length : Int)) = true := by simp; omega
      go_enter Tryd.func7, Tryd.ntmps7
      go_wp2
      all_goals go_ret
      all_goals exact ⟨rfl, Below.refl _ _⟩
    · have hd' : decide ((1048576 : Int) < (l'.length : Int)) = false := by simp; omega
      cases r
      all_goals
        go_enter Tryd.func7, Tryd.ntmps7
        go_wp2_with fail
        refine HS.out.mono ?_
        rintro e w1 ⟨rfl, b1⟩
        go_wp2_with fail
        refine (HI.out w1 b1).mono ?_
        rintro e w2 ⟨rfl, b2⟩
        go_wp2
        go_ret
        exact ⟨rfl, bl_then b1 b2⟩

end Go.Proofs.YtkninejoliclcaaDoor
