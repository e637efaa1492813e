/- The law FnExactAlikeSame returns true at each list, and leaves all that was there as it was. -/
import Derived.Test.YtcemhepojjbcgaaDoorSameAny
import Derived.Test.YtcemhepojjbcgaaDoorBaseA
import Derived.Test.YtcemhepojjbcgaaDoorSpecAutos
import Derived.Test.YtcemhepojjbcgaaDoorImplSame
namespace Go.Proofs.YtcemhepojjbcgaaDoor
open Go.RowKit
set_option linter.unusedVariables false
set_option maxRecDepth 100000


theorem implAlikeSame_yes (B : Nat) (v : Value) (L : List Int) (hg : IsGraph L) (w : World) (h : Row w B v L) (hT : Tab w) :
    Calls Tryd.prog 30 #[v] w (NumOkA w (autosL L).length true) := by
  have ht := hT.lt
  have H1 := Lib.hid (asG_graph B v L hg w h hT)
  obtain ⟨A, c, rfl, hs⟩ := h.seen
  have H2 := Lib.hid (fun w1 (b : Below w.heap.size w w1) => same_any A c L hg w1 (hs.below b) (hT.below b (by omega)))
  clear hg h hs hT
  go_enter Tryd.func30, Tryd.ntmps30
  go_wp2_with fail
  go_enter Tryd.func75, Tryd.ntmps75
  go_wp2_with fail
  refine H1.out.mono ?_
  rintro e w1 ⟨rfl, b1⟩
  go_wp2_with fail
  refine (H2.out _ b1).mono ?_
  rintro e w2 ⟨rfl, b2⟩
  go_wp2
  go_ret2
  exact ⟨rfl, b1.trans (b2.mono b1.size)⟩
theorem implAlikeSame_no (B : Nat) (v : Value) (L : List Int) (hg : ¬ IsGraph L) (w : World) (h : Row w B v L) (hT : Tab w) :
    Calls Tryd.prog 30 #[v] w (NumOkA w 0 false) := by
  have H1 := Lib.hid (asG_none B v L hg w h hT)
  clear hg h
  go_enter Tryd.func30, Tryd.ntmps30
  go_wp2_with fail
  go_enter Tryd.func75, Tryd.ntmps75
  go_wp2_with fail
  refine H1.out.mono ?_
  rintro e w1 ⟨rfl, b1⟩
  go_wp2
  go_ret2
  exact ⟨rfl, b1⟩
theorem specAlikeSame_yes (B : Nat) (v : Value) (L : List Int) (hg : IsGraph L) (w : World) (h : Row w B v L) :
    Calls Tryd.prog 31 #[v] w (NumOkA w (autosL L).length true) := by
  have H1 := Lib.hid (specIn_any B v L true ⟨fun _ => hg, fun _ => rfl⟩ w h)
  obtain ⟨A, c, rfl, hs⟩ := h.seen
  have H2 := Lib.hid (fun w1 (b : Below w.heap.size w w1) => specAutos_seen A c L hg w1 (hs.below b))
  clear hg h hs
  go_enter Tryd.func31, Tryd.ntmps31
  go_wp2_with fail
  refine H1.out.mono ?_
  rintro e w1 ⟨rfl, d, rfl⟩
  go_wp2_with fail
  refine (H2.out _ (below_drewN (Below.refl _ w) d)).mono ?_
  rintro e w2 ⟨u, rfl, hu, b2⟩
  obtain ⟨ob, oc, rfl, _⟩ := hu.shape
  go_wp2
  go_ret2
  exact ⟨rfl, (below_drewN (Below.refl _ w) d).trans b2⟩
theorem specAlikeSame_no (B : Nat) (v : Value) (L : List Int) (hg : ¬ IsGraph L) (w : World) (h : Row w B v L) :
    Calls Tryd.prog 31 #[v] w (NumOkA w 0 false) := by
  have H1 := Lib.hid (specIn_any B v L false ⟨fun h => (by cases h), fun h => absurd h hg⟩ w h)
  clear hg h
  go_enter Tryd.func31, Tryd.ntmps31
  go_wp2_with fail
  refine H1.out.mono ?_
  rintro e w1 ⟨rfl, d, rfl⟩
  go_wp2
  go_ret2
  exact ⟨rfl, below_drewN (Below.refl _ w) d⟩
end Go.Proofs.YtcemhepojjbcgaaDoor
