/- The law FnExactGraphIn returns true at each list, and leaves all that was there as it was. -/
import Derived.Test.YtdgceglbnfdhbaaDoorBaseA
namespace Go.Proofs.YtdgceglbnfdhbaaDoor
open Go.RowKit
set_option linter.unusedVariables false


/-- The program's GraphIn. -/
theorem implIn_any (B : Nat) (v : Value) (L : List Int) (b : Bool) (hb : b = true ↔ IsGraph L) (w : World) (h : Row w B v L) (hT : Tab w) :
    Calls Tryd.prog 28 #[v] w (Said1 w b) := by
  cases b
  · have H := Lib.hid (asG_none B v L (fun hg => by have := hb.2 hg; cases this) w h hT)
    clear hb h hT
    go_enter Tryd.func28, Tryd.ntmps28
    go_wp2_with fail
    refine H.out.mono ?_
    rintro e w1 ⟨rfl, hbw⟩
    go_wp2
    go_ret
    exact ⟨rfl, hbw⟩
  · have H := Lib.hid (asG_graph B v L (hb.1 rfl) w h hT)
    clear hb h hT
    go_enter Tryd.func28, Tryd.ntmps28
    go_wp2_with fail
    refine H.out.mono ?_
    rintro e w1 ⟨rfl, hbw⟩
    go_wp2
    go_ret
    exact ⟨rfl, hbw⟩
end Go.Proofs.YtdgceglbnfdhbaaDoor
