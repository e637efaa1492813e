/- The model's number of edges. -/
import Derived.Test.YtjkepoalepmjoaaDoorEdgeMath
import Derived.Test.YtjkepoalepmjoaaDoorSpecSize
import Derived.Test.YtjkepoalepmjoaaDoorImplCode
namespace Go.Proofs.YtjkepoalepmjoaaDoor
open Go.RowKit
set_option linter.unusedVariables false

theorem specGraphEdges_yes (B : Nat) (v : Value) (L : List Int) (hg : IsGraph L) (w : World) (h : Row w B v L) :
    Calls Tryd.prog 24 #[v] w (NumOk w (edgesN L) true) := by
  have H1 := Lib.hid (specIn_any B v L true ⟨fun _ => hg, fun _ => rfl⟩ w h)
  obtain ⟨A, c, rfl, hs⟩ := h.seen
  have H2 := Lib.hid (fun w hs => specEdges_seen A c L hg w hs)
  clear hg h
  go_enter Tryd.func24, Tryd.ntmps24
  go_wp2_with fail
  refine H1.out.mono ?_
  rintro e w1 ⟨rfl, d, rfl⟩
  go_wp2_with fail
  refine (H2.out (w.drewN d) hs).mono ?_
  rintro e w2 ⟨rfl, rfl⟩
  go_wp2
  go_ret2
  exact ⟨rfl, below_drewN (Below.refl _ _) d⟩
theorem specGraphEdges_no (B : Nat) (v : Value) (L : List Int) (hg : ¬ IsGraph L) (w : World) (h : Row w B v L) :
    Calls Tryd.prog 24 #[v] w (NumOk w 0 false) := by
  have H1 := Lib.hid (specIn_any B v L false ⟨fun h => (by cases h), fun h => absurd h hg⟩ w h)
  clear hg h
  go_enter Tryd.func24, Tryd.ntmps24
  go_wp2_with fail
  refine H1.out.mono ?_
  rintro e w1 ⟨rfl, d, rfl⟩
  go_wp2
  go_ret2
  exact ⟨rfl, below_drewN (Below.refl _ _) d⟩
end Go.Proofs.YtjkepoalepmjoaaDoor
