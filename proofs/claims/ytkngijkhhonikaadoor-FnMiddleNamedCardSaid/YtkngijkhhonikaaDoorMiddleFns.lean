/- TreeMiddle: the program at each list. -/
import Derived.Test.YtkngijkhhonikaaDoorMiddleFn
import Derived.Test.YtkngijkhhonikaaDoorSpecMiddle
namespace Go.Proofs.YtkngijkhhonikaaDoor
open Go Go.RowKit
set_option linter.unusedVariables false
set_option maxRecDepth 100000

set_option maxHeartbeats 1000000 in
theorem implMid_yes (B : Nat) (v : Value) (L : List Int) (ht : IsTree L) (w : World) (h : Row w B v L) (hT : Tab w) :
    Calls Tryd.prog 21 #[v] w (NumOkA w (mdT L L.length).2 true) := by
  have h2 := hT.lt
  have hm := (mid_facts ht).2
  have H1 := Lib.hid (implTreeIn_any B v L true ⟨fun _ => ht, fun _ => rfl⟩ w h hT)
  obtain ⟨A, c, rfl, hs⟩ := h.seen
  have H2 := Lib.hid (fun w1 (b : Below w.heap.size w w1) => callsIn_wide.1 (middle_in A c L ht w1 (hs.below b) (hT.below b (by omega))))
  rw [hm] at H2
  obtain ⟨x, ex⟩ : ∃ x, x = (mdT L L.length).2 := ⟨_, rfl⟩
  rw [← ex] at H2 ⊢
  clear ht h hs hT hm ex
  go_enter Tryd.func21, Tryd.ntmps21
  go_wp2_with fail
  go_enter Tryd.func47, Tryd.ntmps47
  go_wp2_with fail
  refine H1.out.mono ?_
  rintro e w1 ⟨rfl, b1⟩
  go_wp2_with fail
  refine (H2.out _ b1).mono ?_
  rintro e w2 ⟨rfl, b2⟩
  go_wp2
  go_ret2
  exact ⟨rfl, b1.trans (b2.mono b1.size)⟩
theorem implMid_no (B : Nat) (v : Value) (L : List Int) (ht : ¬ IsTree L) (w : World) (h : Row w B v L) (hT : Tab w) :
    Calls Tryd.prog 21 #[v] w (NumOkA w 0 false) := by
  have H1 := Lib.hid (implTreeIn_any B v L false ⟨fun h => (by cases h), fun h => absurd h ht⟩ w h hT)
  clear ht h
  go_enter Tryd.func21, Tryd.ntmps21
  go_wp2_with fail
  go_enter Tryd.func47, Tryd.ntmps47
  go_wp2_with fail
  refine H1.out.mono ?_
  rintro e w1 ⟨rfl, b1⟩
  go_wp2
  go_ret2
  exact ⟨rfl, b1⟩
end Go.Proofs.YtkngijkhhonikaaDoor
