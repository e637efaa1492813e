/- The program's degrees. -/
import Derived.Test.YtneglpklkmoclaaDoorDegsOf
import Derived.RangeFuncBox
import Derived.Test.YtneglpklkmoclaaDoorBaseW
import Derived.Test.YtneglpklkmoclaaDoorBaseA
namespace Go.Proofs.YtneglpklkmoclaaDoor
open Go.RowKit Go.Shelf
attribute [local go_sem] Oper.semAt_some
set_option linter.unusedVariables false


theorem implGraphDegrees_yes (B : Nat) (v : Value) (L : List Int) (hg : IsGraph L) (w : World) (h : Row w B v L) (hT : Tab w) :
    Calls Tryd.prog 13 #[v] w (Told w (degL L L.length) true) := by
  have H1 := Lib.hid (asG_graph B v L hg w h hT)
  have h2 := hT.lt
  obtain ⟨A, c, rfl, hs⟩ := h.seen
  have H2 := Lib.hid (fun w hs ht => callsIn_wide.1 (implDegrees_in A c L hg w hs ht))
  clear hg h
  go_enter Tryd.func13, Tryd.ntmps13
  go_wp2_with fail
  go_enter Tryd.func37, Tryd.ntmps37
  go_wp2_with fail
  refine H1.out.mono ?_
  rintro e w1 ⟨rfl, b1⟩
  go_wp2_with fail
  refine (H2.out w1 (hs.below b1) (hT.below b1 (by omega))).mono ?_
  rintro e w2 ⟨u, rfl, hr, hb⟩
  go_wp2
  go_ret2
  exact ⟨_, rfl, hr.mono b1.size, b1.trans (hb.mono b1.size)⟩
theorem implGraphDegrees_no (B : Nat) (v : Value) (L : List Int) (hg : ¬ IsGraph L) (w : World) (h : Row w B v L) (hT : Tab w) :
    Calls Tryd.prog 13 #[v] w (Told w [] false) := by
  have H1 := Lib.hid (asG_none B v L hg w h hT)
  clear hg h
  go_enter Tryd.func13, Tryd.ntmps13
  go_wp2_with fail
  go_enter Tryd.func37, Tryd.ntmps37
  go_wp2_with fail
  refine H1.out.mono ?_
  rintro e w1 ⟨rfl, b1⟩
  go_wp2
  go_ret2
  exact ⟨_, rfl, World.ownsRow_nil w1 w.heap.size 3 1, b1⟩
end Go.Proofs.YtneglpklkmoclaaDoor
