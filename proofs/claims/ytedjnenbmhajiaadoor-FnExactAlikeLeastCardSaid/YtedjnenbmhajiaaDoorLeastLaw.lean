/- The law FnExactAlikeLeast returns true at each list, and leaves all that was there as it was. -/
import Derived.Test.YtedjnenbmhajiaaDoorAsAny
import Derived.Test.YtedjnenbmhajiaaDoorSpecLeast
import Derived.Test.YtedjnenbmhajiaaDoorImplLeast
import Derived.Test.YtedjnenbmhajiaaDoorLeastOf
namespace Go.Proofs.YtedjnenbmhajiaaDoor
open Go.RowKit
set_option linter.unusedVariables false
set_option maxRecDepth 100000

theorem least_any (A : Option Addr) (c : Nat) (L : List Int) (hL : IsGraph L) (w : World) (sL : Seen w A L) (hT : Tab w) :
    Calls Tryd.prog 36 #[.slice A L.length c] w (NumA w (leastL L)) := callsIn_wide.1 (implLeast_in A c L hL w sL hT)
theorem implAlikeLeast_yes (B : Nat) (v : Value) (L : List Int) (hg : IsGraph L) (w : World) (h : Row w B v L) (hT : Tab w) :
    Calls Tryd.prog 17 #[v] w (NumOkA w (leastL L) true) := by
  have ht := hT.lt
  have H1 := Lib.hid (asG_graph B v L hg w h hT)
  obtain ⟨A, c, rfl, hs⟩ := h.seen
  have H2 := Lib.hid (fun w1 (b : Below w.heap.size w w1) => least_any A c L hg w1 (hs.below b) (hT.below b (by omega)))
  clear hg h hs hT
  go_enter Tryd.func17, Tryd.ntmps17
  go_wp2_with fail
  go_enter Tryd.func35, Tryd.ntmps35
  go_wp2_with fail
  refine H1.out.mono ?_
  rintro e w1 ⟨rfl, b1⟩
  go_wp2_with fail
  refine (H2.out _ b1).mono ?_
  rintro e w2 ⟨rfl, b2⟩
  go_wp2
  go_ret2
  exact ⟨rfl, b1.trans (b2.mono b1.size)⟩
theorem implAlikeLeast_no (B : Nat) (v : Value) (L : List Int) (hg : ¬ IsGraph L) (w : World) (h : Row w B v L) (hT : Tab w) :
    Calls Tryd.prog 17 #[v] w (NumOkA w 0 false) := by
  have H1 := Lib.hid (asG_none B v L hg w h hT)
  clear hg h
  go_enter Tryd.func17, Tryd.ntmps17
  go_wp2_with fail
  go_enter Tryd.func35, Tryd.ntmps35
  go_wp2_with fail
  refine H1.out.mono ?_
  rintro e w1 ⟨rfl, b1⟩
  go_wp2
  go_ret2
  exact ⟨rfl, b1⟩
theorem specAlikeLeast_yes (B : Nat) (v : Value) (L : List Int) (hg : IsGraph L) (w : World) (h : Row w B v L) :
    Calls Tryd.prog 16 #[v] w (NumOkA w (leastL L) true) := by
  have H1 := Lib.hid (specIn_any B v L true ⟨fun _ => hg, fun _ => rfl⟩ w h)
  obtain ⟨A, c, rfl, hs⟩ := h.seen
  have H2 := Lib.hid (fun w1 (b : Below w.heap.size w w1) => specLeast_seen A c L hg w1 (hs.below b))
  clear hg h hs
  go_enter Tryd.func16, Tryd.ntmps16
  go_wp2_with fail
  refine H1.out.mono ?_
  rintro e w1 ⟨rfl, d, rfl⟩
  go_wp2_with fail
  refine (H2.out _ (below_drewN (Below.refl _ w) d)).mono ?_
  rintro e w2 ⟨rfl, b2⟩
  go_wp2
  go_ret2
  exact ⟨rfl, (below_drewN (Below.refl _ w) d).trans b2⟩
theorem specAlikeLeast_no (B : Nat) (v : Value) (L : List Int) (hg : ¬ IsGraph L) (w : World) (h : Row w B v L) :
    Calls Tryd.prog 16 #[v] w (NumOkA w 0 false) := by
  have H1 := Lib.hid (specIn_any B v L false ⟨fun h => (by cases h), fun h => absurd h hg⟩ w h)
  clear hg h
  go_enter Tryd.func16, Tryd.ntmps16
  go_wp2_with fail
  refine H1.out.mono ?_
  rintro e w1 ⟨rfl, d, rfl⟩
  go_wp2
  go_ret2
  exact ⟨rfl, below_drewN (Below.refl _ w) d⟩
theorem leastLaw_short (A : Option Addr) (c : Nat) (L : List Int) (w : World) (h : Seen w A L) (hT : Tab w) (hs : L.length ≤ 1048576) :
    Calls Tryd.prog 4 #[.slice A L.length c] w (Fine w) := by
  by_cases hg : IsGraph L
  · exact leastLaw_of A c L w h hT hs (leastL L) true (fun B v w hr => specAlikeLeast_yes B v L hg w hr) (fun B v w hr ht => implAlikeLeast_yes B v L hg w hr ht)
  · exact leastLaw_of A c L w h hT hs 0 false (fun B v w hr => specAlikeLeast_no B v L hg w hr) (fun B v w hr ht => implAlikeLeast_no B v L hg w hr ht)
#print axioms leastLaw_short
end Go.Proofs.YtedjnenbmhajiaaDoor
