/- AlikeLeast by the program, of a graph (at a seat without its law). -/
import Derived.Test.YtamabhdbcmjbjaaDoorImplLeast
import Derived.Test.YtamabhdbcmjbjaaDoorBaseA
namespace Go.Proofs.YtamabhdbcmjbjaaDoor
open Go Go.RowKit
set_option linter.unusedVariables false
set_option maxRecDepth 100000

theorem leastD_any (A : Option Addr) (c : Nat) (L : List Int) (hL : IsGraph L) (w : World) (sL : Seen w A L) (hT : Tab w) :
    Calls Tryd.prog 28 #[.slice A L.length c] w (NumA w (leastL L)) := callsIn_wide.1 (implLeast_in A c L hL w sL hT)
set_option maxHeartbeats 1000000 in
theorem implAlikeLeast_yes (B : Nat) (v : Value) (L : List Int) (hg : IsGraph L) (w : World) (h : Row w B v L) (hT : Tab w) :
    Calls Tryd.prog 10 #[v] w (NumOkA w (leastL L) true) := by
  have ht := hT.lt
  have H1 := Lib.hid (asG_graph B v L hg w h hT)
  obtain ⟨A, c, rfl, hs⟩ := h.seen
  have H2 := Lib.hid (fun w1 (b : Below w.heap.size w w1) => leastD_any A c L hg w1 (hs.below b) (hT.below b (by omega)))
  clear hg h hs hT
  go_enter Tryd.func10, Tryd.ntmps10
  go_wp2_with fail
  go_enter Tryd.func23, Tryd.ntmps23
  go_wp2_with fail
  refine H1.out.mono ?_
  rintro e w1 ⟨rfl, b1⟩
  go_wp2_with fail
  refine (H2.out _ b1).mono ?_
  rintro e w2 ⟨rfl, b2⟩
  go_wp2
  go_ret2
  exact ⟨rfl, b1.trans (b2.mono b1.size)⟩
end Go.Proofs.YtamabhdbcmjbjaaDoor
