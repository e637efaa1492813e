/- NumberPoly by the model. -/
import Derived.Test.YtneglpklkmoclaaDoorSpecPoly
import Derived.Test.YtneglpklkmoclaaDoorPolyFn
import Derived.Test.YtneglpklkmoclaaDoorBaseA
namespace Go.Proofs.YtneglpklkmoclaaDoor
open Go Go.RowKit
set_option linter.unusedVariables false
set_option maxRecDepth 100000

set_option maxHeartbeats 2000000 in
theorem specPolyN_any (B : Nat) (v : Value) (L : List Int) (w : World) (h : Row w B v L) :
    Calls Tryd.prog 22 #[v] w (Told w (polySaid L).1 (polySaid L).2) := by
  by_cases hg : IsGraph L
  · rw [polySaid_yes hg]
    have H0 := Lib.hid (specIn_any B v L true ⟨fun _ => hg, fun _ => rfl⟩ w h)
    obtain ⟨A, c, rfl, hs⟩ := h.seen
    have H1 := Lib.hid (fun w hs => specPoly_seen A c L hg w hs)
    obtain ⟨D, eD⟩ : ∃ D, D = polyL L := ⟨_, rfl⟩
    rw [← eD] at H1 ⊢
    have H := Lib.hid hs
    clear hg h hs eD
    go_enter Tryd.func22, Tryd.ntmps22
    go_wp2_with fail
    refine H0.out.mono ?_
    rintro e w0 ⟨rfl, d, rfl⟩
    go_wp2_with fail
    refine (H1.out (w.drewN d) H.out).mono ?_
    rintro e w1 ⟨u, rfl, hu, b1⟩
    have B1 := Lib.hid ((below_drewN (Below.refl _ w) d).trans b1)
    clear b1
    go_wp2
    go_ret2
    exact ⟨_, rfl, hu, B1.out⟩
  · rw [polySaid_no hg]
    have H0 := Lib.hid (specIn_any B v L false ⟨fun h => (by cases h), fun h => absurd h hg⟩ w h)
    clear hg h
    go_enter Tryd.func22, Tryd.ntmps22
    go_wp2_with fail
    refine H0.out.mono ?_
    rintro e w0 ⟨rfl, d, rfl⟩
    go_wp2
    go_ret2
    exact ⟨_, rfl, World.ownsRow_lit (base := w.heap.size) (e := 3) (size := 1) (w.drewN d) #[] 0 (Nat.le_refl _) (by unfold maxLen; omega) rfl, (below_drewN (Below.refl _ w) d).alloc (Nat.le_refl _) _⟩
end Go.Proofs.YtneglpklkmoclaaDoor
