/- l91Pair draws two lists. -/
import Derived.Test.YtamabhdbcmjbjaaDoorDrawTwo
import Derived.Test.YtamabhdbcmjbjaaDoorBaseF
namespace Go.Proofs.YtamabhdbcmjbjaaDoor
open Go Go.RowKit
set_option linter.unusedVariables false
set_option maxRecDepth 100000

set_option maxHeartbeats 2000000 in
theorem pair_any (A : Option Addr) (c : Nat) (bs : List Nat) (w : World) (h : Byts w A bs) (hc : bs.length ≤ c) (hA : Under A bs w.heap.size) :
    Calls Tryd.prog 40 #[.slice A bs.length c] w (DrewTwo 5 6 w) := by
  have HO := Lib.hid (open_any A c bs w h hc hA)
  obtain ⟨n, hn⟩ : ∃ n, n = bs.length := ⟨_, rfl⟩
  rw [← hn] at HO ⊢
  clear h hc hA hn
  go_enter Tryd.func40, Tryd.ntmps40
  go_wp2_with fail
  refine HO.out.mono ?_
  rintro e w1 ⟨bs', c', rfl, hl, hR, hb, hA', hbe⟩
  obtain ⟨R, eR⟩ : ∃ R, R = w.heap.size := ⟨_, rfl⟩
  rw [← eR] at hR hA' hbe ⊢
  have ER := Lib.hid eR
  have HA' := Lib.hid hA'
  have HBE := Lib.hid hbe
  have H1 := Lib.hid (show Rdr w1 R A c' 0 bs' from ⟨⟨0, Nat.le_refl _, hR⟩, hb⟩)
  clear hR hb hbe hA' eR
  go_wp2_with fail
  refine (rdr_pick H1.out 5 (by omega) (by omega) (by omega) hl HA'.out).mono ?_
  rintro e w2 ⟨x, hx, rfl, hr2, hg2⟩
  have H2 := Lib.hid hr2
  have HB2 := Lib.hid (HBE.out.grown hg2 (by have := ER.out; have := HBE.out.size; omega) (fun k hk => by cases hk; exact Nat.le_refl _))
  obtain ⟨y, hy⟩ : ∃ y, y = x + 1 := ⟨_, rfl⟩
  have hs : (1 : Int) + (x : Int) = (y : Nat) := by omega
  have hy6 : y ≤ 5 := by omega
  have hy1 : 1 ≤ y := by omega
  have hw := wrapN y (by omega)
  clear hr2 hg2 hy hx
  go_wp2_with fail
  refine (two_any H2.out y hy1 hy6 (by omega) hl HA'.out).mono ?_
  rintro e w3 ⟨v, L, v', L', rfl, hL, hL', hr, hr', hb3⟩
  have HR := Lib.hid hr
  have HR' := Lib.hid hr'
  have HL := Lib.hid hL
  have HL' := Lib.hid hL'
  have HB3 := Lib.hid (HB2.out.trans hb3)
  clear hr hr' hL hL' hb3
  go_wp2
  go_ret2
  exact ⟨_, L, _, L', rfl, ⟨by have := HL.out; omega, by have := HL.out; omega⟩, HL'.out, by rw [← ER.out]; exact HR.out, by rw [← ER.out]; exact HR'.out, by rw [← ER.out]; exact HB3.out⟩
end Go.Proofs.YtamabhdbcmjbjaaDoor
