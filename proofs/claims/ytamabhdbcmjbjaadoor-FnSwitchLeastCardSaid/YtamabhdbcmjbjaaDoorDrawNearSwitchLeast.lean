/- DrawNearSwitchLeast draws a list of one to five nodes. -/
import Derived.Test.YtamabhdbcmjbjaaDoorDrawFew
namespace Go.Proofs.YtamabhdbcmjbjaaDoor
open Go Go.RowKit
set_option linter.unusedVariables false
set_option maxRecDepth 100000

theorem drawNearSwitchLeast_any (A : Option Addr) (c : Nat) (bs : List Nat) (w : World) (h : Byts w A bs) (hc : bs.length ≤ c) (hA : Under A bs w.heap.size) :
    Calls Tryd.prog 7 #[.slice A bs.length c] w (Drew w) := by
  have HO := Lib.hid (few_any A c bs w h hc hA)
  obtain ⟨n, hn⟩ : ∃ n, n = bs.length := ⟨_, rfl⟩
  rw [← hn] at HO ⊢
  clear h hc hA hn
  go_enter Tryd.func7, Tryd.ntmps7
  go_wp2_with fail
  refine HO.out.mono ?_
  rintro e w1 ⟨v, L, rfl, l1, l6, r, b⟩
  go_wp2
  go_ret
  exact ⟨_, L, rfl, l1, l6, r, b⟩
end Go.Proofs.YtamabhdbcmjbjaaDoor
