/- GraphNamed by the program. -/
import Derived.Test.YtkngijkhhonikaaDoorImplNamed
import Derived.Test.YtkngijkhhonikaaDoorAreNames
import Derived.Test.YtkngijkhhonikaaDoorBaseA
namespace Go.Proofs.YtkngijkhhonikaaDoor
open Go.RowKit
set_option linter.unusedVariables false


theorem empty_rowN (w : World) : Row (w.alloc (.cells #[] 3)) w.heap.size (.slice (some ⟨w.heap.size, 0, none⟩) 0 0) [] := World.ownsRow_lit (base := w.heap.size) (e := 3) (size := 1) w #[] 0 (Nat.le_refl _) (by unfold maxLen; omega) rfl

set_option maxHeartbeats 1000000 in
theorem implGNamed_first (B B' : Nat) (v v' : Value) (L P : List Int) (hL : ¬ IsGraph L) (w : World) (h : Row w B v L) (h' : Row w B' v' P) (hT : Tab w) :
    Calls Tryd.prog 32 #[v, v'] w (Told w [] false) := by
  have H1 := Lib.hid (asG_none B v L hL w h hT)
  clear hL h
  go_enter Tryd.func32, Tryd.ntmps32
  go_wp2_with fail
  refine H1.out.mono ?_
  rintro e w1 ⟨rfl, b1⟩
  go_wp2
  go_ret2
  exact ⟨_, rfl, World.ownsRow_nil w1 w.heap.size 3 1, b1⟩
set_option maxHeartbeats 1000000 in
theorem implGNamed_second (B B' : Nat) (v v' : Value) (L P : List Int) (hL : IsGraph L) (hP : ¬ IsNames P L.length) (hl : P.length ≤ 1048576) (w : World) (h : Row w B v L) (h' : Row w B' v' P) (hT : Tab w) :
    Calls Tryd.prog 32 #[v, v'] w (Told w [] false) := by
  have l1 := hL.1
  have l6 := hL.2.1
  have H1 := Lib.hid (asG_graph B v L hL w h hT)
  obtain ⟨A, c, rfl, s1⟩ := h.seen
  obtain ⟨A', c', rfl, s2⟩ := h'.seen
  have S2 := Lib.hid s2
  have H2 := Lib.hid (fun w h => areNames_any A' c' L.length P false ⟨fun h => (by cases h), fun h => absurd h hP⟩ w h l1 l6 hl)
  clear hL hP h h' s1 s2
  go_enter Tryd.func32, Tryd.ntmps32
  go_wp2_with fail
  refine H1.out.mono ?_
  rintro e w1 ⟨rfl, b1⟩
  go_wp2_with fail
  refine (H2.out w1 (S2.out.below b1)).mono ?_
  rintro e w2 ⟨rfl, d2, rfl⟩
  go_wp2
  go_ret2
  exact ⟨_, rfl, World.ownsRow_nil _ w.heap.size 3 1, below_drewN b1 d2⟩
set_option maxHeartbeats 1000000 in
theorem implGNamed_both (B B' : Nat) (v v' : Value) (L P : List Int) (hL : IsGraph L) (hP : IsNames P L.length) (w : World) (h : Row w B v L) (h' : Row w B' v' P) (hT : Tab w) :
    Calls Tryd.prog 32 #[v, v'] w (Told w (ints (mrun L L.length (nm P) (grid L.length L.length))) true) := by
  have l1 := hL.1
  have l6 := hL.2.1
  have hl : P.length ≤ 1048576 := by rw [hP.1]; omega
  have HE := Lib.hid (named_eq L hL (nm P) (fun v hv => (nm_int hP hv).2) (grid L.length L.length) (grid_all L.length))
  have H1 := Lib.hid (asG_graph B v L hL w h hT)
  obtain ⟨A, c, rfl, s1⟩ := h.seen
  obtain ⟨A', c', rfl, s2⟩ := h'.seen
  have S1 := Lib.hid s1
  have S2 := Lib.hid s2
  have H2 := Lib.hid (fun w h => areNames_any A' c' L.length P true ⟨fun _ => hP, fun _ => rfl⟩ w h l1 l6 hl)
  have H3 := Lib.hid (fun w h h' => callsIn_wide.1 (implNamed_in A A' c c' L P hL hP w h h'))
  clear hL hP h h' s1 s2
  go_enter Tryd.func32, Tryd.ntmps32
  go_wp2_with fail
  refine H1.out.mono ?_
  rintro e w1 ⟨rfl, b1⟩
  go_wp2_with fail
  refine (H2.out w1 (S2.out.below b1)).mono ?_
  rintro e w2 ⟨rfl, d2, rfl⟩
  have b2 := below_drewN b1 d2
  go_wp2_with fail
  refine (H3.out _ (S1.out.below b2) (S2.out.below b2)).mono ?_
  rintro e w3 ⟨u, rfl, ru, b4⟩
  go_wp2
  go_ret2
  exact ⟨_, rfl, by rw [HE.out]; exact ru.mono b2.size, b2.trans (b4.mono b2.size)⟩
end Go.Proofs.YtkngijkhhonikaaDoor
