/- Whether names make one graph another one, by the program. -/
import Derived.Test.YtamabhdbcmjbjaaDoorBaseG
import Derived.Test.YtamabhdbcmjbjaaDoorFirstLike
namespace Go.Proofs.YtamabhdbcmjbjaaDoor
open Go Go.RowKit
set_option linter.unusedVariables false
set_option maxRecDepth 100000

theorem alike_of (A A' : Option Addr) (n n' c c' : Nat) (R : List Int) (ok : Bool) (w : World)
    (h : Calls Tryd.prog 72 #[.slice A n c, .slice A' n' c'] w (Told w R ok)) :
    Calls Tryd.prog 48 #[.slice A n c, .slice A' n' c'] w (Said1 w ok) := by
  have H := Lib.hid h
  clear h
  go_enter Tryd.func48, Tryd.ntmps48
  go_wp2_with fail
  refine H.out.mono ?_
  rintro e w1 ⟨u, rfl, _, b1⟩
  go_wp2
  go_ret
  exact ⟨rfl, b1⟩
theorem alike_any (A A' : Option Addr) (c c' : Nat) (L M : List Int) (hL : IsGraph L) (hM : IsGraph M) (hl : L.length = M.length) (w : World) (sL : Seen w A L) (sM : Seen w A' M) (hT : Tab w) :
    Calls Tryd.prog 48 #[.slice A L.length c, .slice A' M.length c'] w (Said1 w (decide (edgesN L = edgesN M ∧ leastL L = leastL M))) := by
  have e : (!(likeL L M).isEmpty) = decide (edgesN L = edgesN M ∧ leastL L = leastL M) := by
    have h := alike_iff hL hM hl
    rw [Bool.eq_iff_iff, decide_eq_true_eq, ← h]
    cases likeL L M <;> simp
  rw [← e]
  exact alike_of A A' _ _ c c' _ _ w ((callsIn_wide.1 (firstLike_in A A' c c' L M hL hM hl w sL sM hT)).mono fun e w' => firstR_is)
end Go.Proofs.YtamabhdbcmjbjaaDoor
