/- The law FnExactGraphNamed returns true at each two lists, and leaves all that was there as it was. -/
import Derived.Test.YtamabhdbcmjbjaaDoorEmptyRowN
import Derived.Test.YtamabhdbcmjbjaaDoorBaseG
import Derived.Test.YtamabhdbcmjbjaaDoorNamesFns
import Derived.Test.YtamabhdbcmjbjaaDoorBaseA
namespace Go.Proofs.YtamabhdbcmjbjaaDoor
open Go.RowKit
set_option linter.unusedVariables false


set_option maxHeartbeats 1000000 in
theorem specGNamed_first (B B' : Nat) (v v' : Value) (L P : List Int) (hL : ¬ IsGraph L) (w : World) (h : Row w B v L) (h' : Row w B' v' P) :
    Calls Tryd.prog 81 #[v, v'] w (Told w [] false) := by
  have H1 := Lib.hid (specIn_any B v L false ⟨fun h => (by cases h), fun h => absurd h hL⟩ w h)
  clear hL h h'
  go_enter Tryd.func81, Tryd.ntmps81
  go_wp2_with fail
  refine H1.out.mono ?_
  rintro e w1 ⟨rfl, d, rfl⟩
  go_wp2
  go_ret2
  exact ⟨_, rfl, empty_rowN (w.drewN d), (below_drewN (Below.refl _ w) d).alloc (Nat.le_refl _) _⟩
set_option maxHeartbeats 1000000 in
theorem specGNamed_second (B B' : Nat) (v v' : Value) (L P : List Int) (hL : IsGraph L) (hP : ¬ IsNames P L.length) (hl : P.length ≤ 1048576) (w : World) (h : Row w B v L) (h' : Row w B' v' P) :
    Calls Tryd.prog 81 #[v, v'] w (Told w [] false) := by
  have l1 := hL.1
  have l6 := hL.2.1
  have H1 := Lib.hid (specIn_any B v L true ⟨fun _ => hL, fun _ => rfl⟩ w h)
  obtain ⟨A, c, rfl, s1⟩ := h.seen
  obtain ⟨A', c', rfl, s2⟩ := h'.seen
  have S2 := Lib.hid s2
  have H2 := Lib.hid (fun w h => specNames_any A' c' L.length P false ⟨fun h => (by cases h), fun h => absurd h hP⟩ w h l1 l6 hl)
  clear hL hP h h' s1 s2
  go_enter Tryd.func81, Tryd.ntmps81
  go_wp2_with fail
  refine H1.out.mono ?_
  rintro e w1 ⟨rfl, d, rfl⟩
  go_wp2_with fail
  refine (H2.out (w.drewN d) S2.out).mono ?_
  rintro e w2 ⟨rfl, d2, rfl⟩
  go_wp2
  go_ret2
  exact ⟨_, rfl, empty_rowN (w.drewN (d + d2)), (below_drewN (Below.refl _ w) (d + d2)).alloc (Nat.le_refl _) _⟩
set_option maxHeartbeats 1000000 in
theorem specGNamed_both (B B' : Nat) (v v' : Value) (L P : List Int) (hL : IsGraph L) (hP : IsNames P L.length) (w : World) (h : Row w B v L) (h' : Row w B' v' P) :
    Calls Tryd.prog 81 #[v, v'] w (Told w (ints (mrun L L.length (nm P) (grid L.length L.length))) true) := by
  have l1 := hL.1
  have l6 := hL.2.1
  have hl : P.length ≤ 1048576 := by rw [hP.1]; omega
  have H1 := Lib.hid (specIn_any B v L true ⟨fun _ => hL, fun _ => rfl⟩ w h)
  obtain ⟨A, c, rfl, s1⟩ := h.seen
  obtain ⟨A', c', rfl, s2⟩ := h'.seen
  have S1 := Lib.hid s1
  have S2 := Lib.hid s2
  have H2 := Lib.hid (fun w h => specNames_any A' c' L.length P true ⟨fun _ => hP, fun _ => rfl⟩ w h l1 l6 hl)
  have H3 := Lib.hid (fun w h h' => specNamed_seen A A' c c' L P hL hP w h h')
  clear hL hP h h' s1 s2
  go_enter Tryd.func81, Tryd.ntmps81
  go_wp2_with fail
  refine H1.out.mono ?_
  rintro e w1 ⟨rfl, d, rfl⟩
  go_wp2_with fail
  refine (H2.out (w.drewN d) S2.out).mono ?_
  rintro e w2 ⟨rfl, d2, rfl⟩
  go_wp2_with fail
  refine (H3.out (w.drewN (d + d2)) S1.out S2.out).mono ?_
  rintro e w3 ⟨u, rfl, ru, b4⟩
  go_wp2
  go_ret2
  exact ⟨_, rfl, ru, (below_drewN (Below.refl _ w) (d + d2)).trans b4⟩

end Go.Proofs.YtamabhdbcmjbjaaDoor
