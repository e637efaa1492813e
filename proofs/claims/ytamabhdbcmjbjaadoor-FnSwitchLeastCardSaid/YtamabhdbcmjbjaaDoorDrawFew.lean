/- A list of one to five nodes is drawn from bytes. -/
import Derived.Test.YtamabhdbcmjbjaaDoorBaseF
import Derived.Test.YtamabhdbcmjbjaaDoorDrewDef
namespace Go.Proofs.YtamabhdbcmjbjaaDoor
open Go Go.RowKit
set_option linter.unusedVariables false
set_option maxRecDepth 100000

theorem few_any (A : Option Addr) (c : Nat) (bs : List Nat) (w : World) (h : Byts w A bs) (hc : bs.length ≤ c) (hA : Under A bs w.heap.size) :
    Calls Tryd.prog 22 #[.slice A bs.length c] w (Drew w) := by
  have HO := Lib.hid (open_any A c bs w h hc hA)
  obtain ⟨n, hn⟩ : ∃ n, n = bs.length := ⟨_, rfl⟩
  rw [← hn] at HO ⊢
  clear h hc hA hn
  go_enter Tryd.func22, Tryd.ntmps22
  go_wp2_with fail
  refine HO.out.mono ?_
  rintro e w1 ⟨bs', c', rfl, hl, hR, hb, hA', hbe⟩
  have HA' := Lib.hid hA'
  have HR := Lib.hid hR
  have HB := Lib.hid hb
  have HBE := Lib.hid hbe
  have HP := Lib.hid (pick_any w.heap.size A c' 0 5 bs' (by omega) (by omega) (by omega) hl w1 hR hb hA')
  clear hR hb hbe hA'
  go_wp2_with fail
  refine HP.out.mono ?_
  rintro e w2 ⟨x, d, hx, rfl, hw2⟩
  have hbR : Below w.heap.size w1 ((w1.setCell ⟨w.heap.size, 1, none⟩ (.int .i64 ((0 + 1 : Nat) : Nat))).drewN d) := below_drewN ((Below.refl w.heap.size w1).setCell (p := ⟨w.heap.size, 1, none⟩) (Nat.le_refl _) _) d
  have HR2 := Lib.hid (show RdAt w2 w.heap.size A bs'.length c' 1 by rw [hw2]; exact HR.out.next 1)
  have HB2 := Lib.hid (show Byts w2 A bs' by rw [hw2]; exact HB.out.below hbR HA'.out)
  have HBE2 := Lib.hid (show Below w.heap.size w w2 by rw [hw2]; exact HBE.out.trans hbR)
  obtain ⟨y, hy⟩ : ∃ y, y = x + 1 := ⟨_, rfl⟩
  have hs : (1 : Int) + (x : Int) = (y : Nat) := by omega
  have hw := wrapN y (by omega)
  have HG := Lib.hid (drawGraph_any w.heap.size A c' 1 5 y bs' (by omega) (by omega) (by omega) (by omega) hl w2 HR2.out HB2.out HA'.out)
  have hy5 : y ≤ 5 := by omega
  have hy1 : 1 ≤ y := by omega
  clear hw2 hbR hy
  go_wp2_with fail
  refine HG.out.mono ?_
  rintro e w3 ⟨v, L, rfl, hL, hr, hb3, _, _, _⟩
  have HR3 := Lib.hid hr
  have HL := Lib.hid hL
  have HB3 := Lib.hid hb3
  clear hr hL hb3
  go_wp2
  go_ret
  exact ⟨_, L, rfl, by have := HL.out; omega, by have := HL.out; omega, HR3.out, HBE2.out.trans HB3.out⟩

end Go.Proofs.YtamabhdbcmjbjaaDoor
