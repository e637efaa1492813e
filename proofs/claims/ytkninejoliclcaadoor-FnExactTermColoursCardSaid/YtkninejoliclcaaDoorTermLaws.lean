/- The laws FnExactTermIn, FnExactTermColours and FnExactTermFull return true at each text, and leave all that was there as it was. -/
import Derived.Test.YtkninejoliclcaaDoorTermSpecFns
import Derived.Test.YtkninejoliclcaaDoorTermFns
namespace Go.Proofs.YtkninejoliclcaaDoor
open Go Go.RowKit
set_option linter.unusedVariables false
set_option maxRecDepth 100000

set_option maxHeartbeats 1000000 in
theorem termInLaw (l : List UInt8) (w : World) (hE : ErrT w) : Calls Tryd.prog 3 #[.string ⟨l.toArray⟩] w (Gave w (.bool true)) := by
  by_cases hl : 1048576 < l.length
  · have hd : decide ((1048576 : Int) < (l.length : Int)) = true := by simp; omega
    go_enter Tryd.func3, Tryd.ntmps3
    go_wp2
    go_ret
    exact ⟨rfl, Below.refl _ _⟩
  · have hd : decide ((1048576 : Int) < (l.length : Int)) = false := by simp; omega
    have hlt := hE.lt
    have HS := Lib.hid (specIn_any l w)
    cases ht : termOf l with
    | none =>
      have HI := Lib.hid (fun w' (b : Below w.heap.size w w') => implIn_no l ht w' (hE.below b hlt))
      rw [ht] at HS
      have HS2 : Hid (Calls Tryd.prog 10 #[.string ⟨l.toArray⟩] w (Gave w (.bool false))) := HS
      clear HS ht hE
      go_enter Tryd.func3, Tryd.ntmps3
      go_wp2_with fail
      refine HS2.out.mono ?_
      rintro e w1 ⟨rfl, b1⟩
      go_wp2_with fail
      refine (HI.out w1 b1).mono ?_
      rintro e w2 ⟨rfl, b2⟩
      go_wp2
      go_ret
      exact ⟨rfl, bl_then b1 b2⟩
    | some t =>
      have HI := Lib.hid (fun w' => implIn_yes l t ht w')
      rw [ht] at HS
      have HS2 : Hid (Calls Tryd.prog 10 #[.string ⟨l.toArray⟩] w (Gave w (.bool true))) := HS
      clear HS ht hE
      go_enter Tryd.func3, Tryd.ntmps3
      go_wp2_with fail
      refine HS2.out.mono ?_
      rintro e w1 ⟨rfl, b1⟩
      go_wp2_with fail
      refine (HI.out w1).mono ?_
      rintro e w2 ⟨rfl, b2⟩
      go_wp2
      go_ret
      exact ⟨rfl, bl_then b1 b2⟩

set_option maxHeartbeats 1000000 in
theorem termColoursLaw (l : List UInt8) (w : World) (hE : ErrT w) : Calls Tryd.prog 8 #[.string ⟨l.toArray⟩] w (Gave w (.bool true)) := by
  by_cases hl : 1048576 < l.length
  · have hd : decide ((1048576 : Int) < (l.length : Int)) = true := by simp; omega
    go_enter Tryd.func8, Tryd.ntmps8
    go_wp2
    go_ret
    exact ⟨rfl, Below.refl _ _⟩
  · have hd : decide ((1048576 : Int) < (l.length : Int)) = false := by simp; omega
    have hlt := hE.lt
    cases ht : termOf l with
    | none =>
      have HS := Lib.hid (specColours_no l ht w)
      have HI := Lib.hid (fun w' (b : Below w.heap.size w w') => implColours_no l ht w' (hE.below b hlt))
      clear ht hE
      go_enter Tryd.func8, Tryd.ntmps8
      go_wp2_with fail
      refine HS.out.mono ?_
      rintro e w1 ⟨rfl, b1⟩
      go_wp2_with fail
      refine (HI.out w1 b1).mono ?_
      rintro e w2 ⟨rfl, b2⟩
      go_wp2
      go_ret
      exact ⟨rfl, bl_then b1 b2⟩
    | some t =>
      have HS := Lib.hid (specColours_yes l t ht w)
      have HI := Lib.hid (fun w' => implColours_yes l t ht w')
      obtain ⟨x, ex⟩ : ∃ x, x = (t.td false).fo true := ⟨_, rfl⟩
      rw [← ex] at HS HI
      clear ht hE ex
      go_enter Tryd.func8, Tryd.ntmps8
      go_wp2_with fail
      refine HS.out.mono ?_
      rintro e w1 ⟨rfl, b1⟩
      go_wp2_with fail
      refine (HI.out w1).mono ?_
      rintro e w2 ⟨rfl, b2⟩
      go_wp2
      go_ret
      exact ⟨rfl, bl_then b1 b2⟩

set_option maxHeartbeats 1000000 in
theorem termFullLaw (l : List UInt8) (w : World) (hE : ErrT w) : Calls Tryd.prog 9 #[.string ⟨l.toArray⟩] w (Gave w (.bool true)) := by
  by_cases hl : 1048576 < l.length
  · have hd : decide ((1048576 : Int) < (l.length : Int)) = true := by simp; omega
    go_enter Tryd.func9, Tryd.ntmps9
    go_wp2
    go_ret
    exact ⟨rfl, Below.refl _ _⟩
  · have hd : decide ((1048576 : Int) < (l.length : Int)) = false := by simp; omega
    have hlt := hE.lt
    cases ht : termOf l with
    | none =>
      have HS := Lib.hid (specFull_no l ht w)
      have HI := Lib.hid (fun w' (b : Below w.heap.size w w') => implFull_no l ht w' (hE.below b hlt))
      clear ht hE
      go_enter Tryd.func9, Tryd.ntmps9
      go_wp2_with fail
      refine HS.out.mono ?_
      rintro e w1 ⟨rfl, b1⟩
      go_wp2_with fail
      refine (HI.out w1 b1).mono ?_
      rintro e w2 ⟨rfl, b2⟩
      go_wp2
      go_ret
      exact ⟨rfl, bl_then b1 b2⟩
    | some t =>
      have HS := Lib.hid (specFull_yes l t ht w)
      have HI := Lib.hid (fun w' => implFull_yes l t ht w')
      obtain ⟨x, ex⟩ : ∃ x, x = (t.td false).fo false := ⟨_, rfl⟩
      rw [← ex] at HS HI
      clear ht hE ex
      go_enter Tryd.func9, Tryd.ntmps9
      go_wp2_with fail
      refine HS.out.mono ?_
      rintro e w1 ⟨rfl, b1⟩
      go_wp2_with fail
      refine (HI.out w1).mono ?_
      rintro e w2 ⟨rfl, b2⟩
      go_wp2
      go_ret
      exact ⟨rfl, bl_then b1 b2⟩

end Go.Proofs.YtkninejoliclcaaDoor
