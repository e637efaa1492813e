/- DrawNearLeast draws two lists. -/
import Derived.Test.YtamabhdbcmjbjaaDoorDrawPair
namespace Go.Proofs.YtamabhdbcmjbjaaDoor
open Go Go.RowKit
set_option linter.unusedVariables false
set_option maxRecDepth 100000

theorem drawNearLeast_any (A : Option Addr) (c : Nat) (bs : List Nat) (w : World) (h : Byts w A bs) (hc : bs.length ≤ c) (hA : Under A bs w.heap.size) :
    Calls Tryd.prog 16 #[.slice A bs.length c] w (DrewTwo 5 6 w) := by
  have HO := Lib.hid (pair_any A c bs w h hc hA)
  obtain ⟨n, hn⟩ : ∃ n, n = bs.length := ⟨_, rfl⟩
  rw [← hn] at HO ⊢
  clear h hc hA hn
  go_enter Tryd.func16, Tryd.ntmps16
  go_wp2_with fail
  refine HO.out.mono ?_
  rintro e w1 ⟨v, L, v2, L2, rfl, l1, l2, r, r2, b⟩
  go_wp2
  go_ret2
  exact ⟨_, L, _, L2, rfl, l1, l2, r, r2, b⟩
end Go.Proofs.YtamabhdbcmjbjaaDoor
