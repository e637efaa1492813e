/- DrawTutteRank draws a list of nodes and a set. -/
import Derived.Test.YtamabhdbcmjbjaaDoorDrawEdges
namespace Go.Proofs.YtamabhdbcmjbjaaDoor
open Go Go.RowKit
set_option linter.unusedVariables false
set_option maxRecDepth 100000

theorem drawTutteRank_any (A : Option Addr) (c : Nat) (bs : List Nat) (w : World) (h : Byts w A bs) (hc : bs.length ≤ c) (hA : Under A bs w.heap.size) :
    Calls Tryd.prog 12 #[.slice A bs.length c] w (DrewE w) := by
  have HO := Lib.hid (edges_draw A c bs w h hc hA)
  obtain ⟨n, hn⟩ : ∃ n, n = bs.length := ⟨_, rfl⟩
  rw [← hn] at HO ⊢
  clear h hc hA hn
  go_enter Tryd.func12, Tryd.ntmps12
  go_wp2_with fail
  refine HO.out.mono ?_
  rintro e w1 ⟨v, L, z, rfl, l1, l5, z1, z2, r, b⟩
  go_wp2
  go_ret2
  exact ⟨_, L, _, rfl, l1, l5, z1, z2, r, b⟩
end Go.Proofs.YtamabhdbcmjbjaaDoor
