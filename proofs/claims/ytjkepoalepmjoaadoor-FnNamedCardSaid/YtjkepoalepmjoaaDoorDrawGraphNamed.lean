/- DrawGraphNamed draws a list and names. -/
import Derived.Test.YtjkepoalepmjoaaDoorDrawNames
namespace Go.Proofs.YtjkepoalepmjoaaDoor
open Go Go.RowKit
set_option linter.unusedVariables false
set_option maxRecDepth 100000

set_option maxHeartbeats 2000000 in
theorem drawGraphNamed_any (A : Option Addr) (c : Nat) (bs : List Nat) (w : World) (h : Byts w A bs) (hc : bs.length ≤ c) (hA : Under A bs w.heap.size) :
    Calls Tryd.prog 32 #[.slice A bs.length c] w (DrewTwo 6 6 w) := by
  have HO := Lib.hid (open_any A c bs w h hc hA)
  obtain ⟨n, hn⟩ : ∃ n, n = bs.length := ⟨_, rfl⟩
  rw [← hn] at HO ⊢
  clear h hc hA hn
  go_enter Tryd.func32, Tryd.ntmps32
  go_wp2_with fail
  refine HO.out.mono ?_
  rintro e w1 ⟨bs', c', rfl, hl, hR, hb, hA', hbe⟩
  obtain ⟨R, eR⟩ : ∃ R, R = w.heap.size := ⟨_, rfl⟩
  rw [← eR] at hR hA' hbe ⊢
  have ER := Lib.hid eR
  have HA' := Lib.hid hA'
  have HBE := Lib.hid hbe
  have H1 := Lib.hid (show Rdr w1 R A c' 0 bs' from ⟨⟨0, Nat.le_refl _, hR⟩, hb⟩)
  clear hR hb hbe hA' eR
  go_wp2_with fail
  refine (rdr_pick H1.out 6 (by omega) (by omega) (by omega) hl HA'.out).mono ?_
  rintro e w2 ⟨x, hx, rfl, hr2, hg2⟩
  have H2 := Lib.hid hr2
  have HB2 := Lib.hid (HBE.out.grown hg2 (by have := ER.out; have := HBE.out.size; omega) (fun k hk => by cases hk; exact Nat.le_refl _))
  obtain ⟨y, hy⟩ : ∃ y, y = x + 1 := ⟨_, rfl⟩
  have hs : (1 : Int) + (x : Int) = (y : Nat) := by omega
  have hy6 : y ≤ 6 := by omega
  have hy1 : 1 ≤ y := by omega
  have hw := wrapN y (by omega)
  clear hr2 hg2 hy hx
  go_wp2_with fail
  refine (rdr_graph H2.out y hy1 (by omega) (by omega) hl HA'.out).mono ?_
  rintro e w3 ⟨v, L, g, rfl, hL, hr, hq3, hgr3, hgR, hvg⟩
  have H3 := Lib.hid hq3
  have HR3 := Lib.hid hr
  have HL := Lib.hid hL
  have HV := Lib.hid hvg
  have HB3 := Lib.hid (HB2.out.grown hgr3 (by have := ER.out; have := HB2.out.size; omega) (fun k hk => by cases hk; exact Nat.le_refl _))
  clear hr hL hq3 hvg hgr3 hs hw
  go_wp2_with fail
  refine (names_any H3.out y hy1 hy6 (by omega) hl HA'.out).mono ?_
  rintro e w5 ⟨v', L', g', rfl, hL', hr', hq5, hgr5, hgR', hvg'⟩
  have HR5 := Lib.hid (HR3.out.reads HV.out hgR hgr5)
  have HR5' := Lib.hid hr'
  have HL' := Lib.hid hL'
  have HB5 := Lib.hid (HB3.out.grown hgr5 (by have := ER.out; have := HB3.out.size; omega) (fun k hk => by cases hk; exact Nat.le_refl _))
  clear hr' hL' hq5 hgr5 hvg'
  go_wp2
  go_ret2
  exact ⟨_, L, _, L', rfl, ⟨by have := HL.out; omega, by have := HL.out; omega⟩, ⟨by have := HL'.out; omega, by have := HL'.out; omega⟩, by rw [← ER.out]; exact HR5.out, by rw [← ER.out]; exact HR5'.out, by rw [← ER.out]; exact HB5.out⟩
end Go.Proofs.YtjkepoalepmjoaaDoor
