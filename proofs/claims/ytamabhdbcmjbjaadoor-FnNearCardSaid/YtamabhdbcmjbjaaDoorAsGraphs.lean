/- asGraphs at two lists. -/
import Derived.Test.YtamabhdbcmjbjaaDoorBaseA
import Derived.OwnWalk
namespace Go.Proofs.YtamabhdbcmjbjaaDoor
open Go.RowKit
set_option linter.unusedVariables false

def GsYes (w : World) (v v' : Value) (e : Ending) (w' : World) : Prop := e = .returned (.tuple #[v, v', .bool true]) ∧ Below w.heap.size w w'
def GsNo (w : World) (e : Ending) (w' : World) : Prop := e = .returned (.tuple #[.slice none 0 0, .slice none 0 0, .bool false]) ∧ Below w.heap.size w w'
set_option maxHeartbeats 1000000 in
theorem asGs_yes (B B' : Nat) (v v' : Value) (L M : List Int) (hL : IsGraph L) (hM : IsGraph M) (w : World) (h : Row w B v L) (h' : Row w B' v' M) (hT : Tab w) :
    Calls Tryd.prog 47 #[v, v'] w (GsYes w v v') := by
  have h2 := hT.lt
  have H1 := Lib.hid (asG_graph B v L hL w h hT)
  have H2 := Lib.hid (fun w h hT => asG_graph B' v' M hM w h hT)
  clear hL hM h
  go_enter Tryd.func47, Tryd.ntmps47
  go_wp2_with fail
  refine H1.out.mono ?_
  rintro e w1 ⟨rfl, b1⟩
  go_wp2_with fail
  refine (H2.out w1 (h'.below b1) (hT.below b1 (by omega))).mono ?_
  rintro e w2 ⟨rfl, b2⟩
  go_wp2
  go_ret3
  exact ⟨rfl, b1.trans (b2.mono b1.size)⟩
set_option maxHeartbeats 1000000 in
theorem asGs_first (B B' : Nat) (v v' : Value) (L M : List Int) (hL : ¬ IsGraph L) (w : World) (h : Row w B v L) (h' : Row w B' v' M) (hT : Tab w) :
    Calls Tryd.prog 47 #[v, v'] w (GsNo w) := by
  have h2 := hT.lt
  have H1 := Lib.hid (asG_none B v L hL w h hT)
  by_cases hM : IsGraph M
  · have H2 := Lib.hid (fun w h hT => asG_graph B' v' M hM w h hT)
    clear hL hM h
    go_enter Tryd.func47, Tryd.ntmps47
    go_wp2_with fail
    refine H1.out.mono ?_
    rintro e w1 ⟨rfl, b1⟩
    go_wp2_with fail
    refine (H2.out w1 (h'.below b1) (hT.below b1 (by omega))).mono ?_
    rintro e w2 ⟨rfl, b2⟩
    go_wp2
    go_ret3
    exact ⟨rfl, b1.trans (b2.mono b1.size)⟩
  · have H2 := Lib.hid (fun w h hT => asG_none B' v' M hM w h hT)
    clear hL hM h
    go_enter Tryd.func47, Tryd.ntmps47
    go_wp2_with fail
    refine H1.out.mono ?_
    rintro e w1 ⟨rfl, b1⟩
    go_wp2_with fail
    refine (H2.out w1 (h'.below b1) (hT.below b1 (by omega))).mono ?_
    rintro e w2 ⟨rfl, b2⟩
    go_wp2
    go_ret3
    exact ⟨rfl, b1.trans (b2.mono b1.size)⟩
set_option maxHeartbeats 1000000 in
theorem asGs_second (B B' : Nat) (v v' : Value) (L M : List Int) (hL : IsGraph L) (hM : ¬ IsGraph M) (w : World) (h : Row w B v L) (h' : Row w B' v' M) (hT : Tab w) :
    Calls Tryd.prog 47 #[v, v'] w (GsNo w) := by
  have h2 := hT.lt
  have H1 := Lib.hid (asG_graph B v L hL w h hT)
  have H2 := Lib.hid (fun w h hT => asG_none B' v' M hM w h hT)
  clear hL hM h
  go_enter Tryd.func47, Tryd.ntmps47
  go_wp2_with fail
  refine H1.out.mono ?_
  rintro e w1 ⟨rfl, b1⟩
  go_wp2_with fail
  refine (H2.out w1 (h'.below b1) (hT.below b1 (by omega))).mono ?_
  rintro e w2 ⟨rfl, b2⟩
  go_wp2
  go_ret3
  exact ⟨rfl, b1.trans (b2.mono b1.size)⟩
end Go.Proofs.YtamabhdbcmjbjaaDoor
