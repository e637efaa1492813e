/- AlikeIn by the program. -/
import Derived.Test.YtamabhdbcmjbjaaDoorAsGraphs
import Derived.Test.YtamabhdbcmjbjaaDoorImplAlike
namespace Go.Proofs.YtamabhdbcmjbjaaDoor
open Go Go.RowKit
set_option linter.unusedVariables false
set_option maxRecDepth 100000


theorem implAlike_none (v v' : Value) (w : World) (h : Calls Tryd.prog 47 #[v, v'] w (GsNo w)) :
    Calls Tryd.prog 21 #[v, v'] w (Said1 w false) := by
  have H1 := Lib.hid h
  clear h
  go_enter Tryd.func21, Tryd.ntmps21
  go_wp2_with fail
  refine H1.out.mono ?_
  rintro e w1 ⟨rfl, b1⟩
  go_wp2
  go_ret
  exact ⟨rfl, b1⟩
theorem implAlike_graphs (B B' : Nat) (v v' : Value) (L M : List Int) (b : Bool) (hL : IsGraph L) (hM : IsGraph M) (w : World) (h : Row w B v L) (h' : Row w B' v' M) (hT : Tab w)
    (hF : ∀ A A' c c' w, Seen w A L → Seen w A' M → Tab w → Calls Tryd.prog 48 #[.slice A L.length c, .slice A' M.length c'] w (Said1 w b)) :
    Calls Tryd.prog 21 #[v, v'] w (Said1 w b) := by
  have h2 := hT.lt
  have H1 := Lib.hid (asGs_yes B B' v v' L M hL hM w h h' hT)
  obtain ⟨A, c, rfl, s1⟩ := h.seen
  obtain ⟨A', c', rfl, s2⟩ := h'.seen
  have H2 := Lib.hid (fun w1 (b : Below w.heap.size w w1) => hF A A' c c' w1 (s1.below b) (s2.below b) (hT.below b (by omega)))
  clear hL hM h h' s1 s2 hF hT
  go_enter Tryd.func21, Tryd.ntmps21
  go_wp2_with fail
  refine H1.out.mono ?_
  rintro e w1 ⟨rfl, b1⟩
  go_wp2_with fail
  refine (H2.out w1 b1).mono ?_
  rintro e w2 ⟨rfl, b2⟩
  go_wp2
  go_ret
  exact ⟨rfl, b1.trans (b2.mono b1.size)⟩
end Go.Proofs.YtamabhdbcmjbjaaDoor
