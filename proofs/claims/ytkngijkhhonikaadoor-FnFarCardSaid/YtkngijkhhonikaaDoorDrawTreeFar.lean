/- DrawTreeFar draws two lists. -/
import Derived.Test.YtkngijkhhonikaaDoorDrawTree
import Derived.Test.YtkngijkhhonikaaDoorBaseF
namespace Go.Proofs.YtkngijkhhonikaaDoor
open Go Go.RowKit
set_option linter.unusedVariables false
set_option maxRecDepth 100000

set_option maxHeartbeats 2000000 in
theorem drawTreeFar_any (A : Option Addr) (c : Nat) (bs : List Nat) (w : World) (h : Byts w A bs) (hc : bs.length ≤ c) (hA : Under A bs w.heap.size) :
    Calls Tryd.prog 29 #[.slice A bs.length c] w (DrewTwo 6 7 w) := by
  have HO := Lib.hid (open_any A c bs w h hc hA)
  obtain ⟨n, hn⟩ : ∃ n, n = bs.length := ⟨_, rfl⟩
  rw [← hn] at HO ⊢
  clear h hc hA hn
  go_enter Tryd.func29, Tryd.ntmps29
  go_wp2_with fail
  refine HO.out.mono ?_
  rintro e w1 ⟨bs', c', rfl, hl, hR, hb, hA', hbe⟩
  obtain ⟨R, eR⟩ : ∃ R, R = w.heap.size := ⟨_, rfl⟩
  rw [← eR] at hR hA' hbe ⊢
  have ER := Lib.hid eR
  have HA' := Lib.hid hA'
  have HBE := Lib.hid hbe
  have H1 := Lib.hid (show Rdr w1 R A c' 0 bs' from ⟨⟨0, Nat.le_refl _, hR⟩, hb⟩)
  clear hR hb hbe hA' eR
  go_wp2_with fail
  refine (rdr_pick H1.out 6 (by omega) (by omega) (by omega) hl HA'.out).mono ?_
  rintro e w2 ⟨x, hx, rfl, hr2, hg2⟩
  have HB2 := Lib.hid (HBE.out.grown hg2 (by have := ER.out; have := HBE.out.size; omega) (fun k hk => by cases hk; exact Nat.le_refl _))
  obtain ⟨y, hy⟩ : ∃ y, y = x + 1 := ⟨_, rfl⟩
  have hs : (1 : Int) + (x : Int) = (y : Nat) := by omega
  have hy6 : y ≤ 6 := by omega
  have hy1 : 1 ≤ y := by omega
  have HG := Lib.hid (tree_on hr2 y hy1 (by omega) (by omega) hl HA'.out)
  clear hg2 hr2 hy
  go_wp2_with fail
  refine HG.out.mono ?_
  rintro e w3 ⟨v, L, g, rfl, hL, hr, hrd3, hgr, hgR, hvg⟩
  have H3 := Lib.hid hrd3
  have HR3 := Lib.hid hr
  have HL := Lib.hid hL
  have HV := Lib.hid hvg
  have HB3 := Lib.hid (HB2.out.grown hgr (by have := ER.out; have := HB2.out.size; omega) (fun k hk => by cases hk; exact Nat.le_refl _))
  clear hr hL hrd3 hgr hvg
  go_wp2_with fail
  refine (rdr_pick H3.out 24 (by omega) (by omega) (by omega) hl HA'.out).mono ?_
  rintro e w4 ⟨x4, hx4, rfl, hr4, hg4⟩
  have HR4 := Lib.hid (HR3.out.reads HV.out hgR hg4)
  have HB4 := Lib.hid (HB3.out.grown hg4 (by have := ER.out; have := HB3.out.size; omega) (fun k hk => by cases hk; exact Nat.le_refl _))
  obtain ⟨q4, hq4, t4⟩ := div23 x4 hx4
  obtain ⟨m, hm⟩ : ∃ m, m = y + q4 := ⟨_, rfl⟩
  have hs4 : (y : Int) + (q4 : Int) = (m : Nat) := by omega
  have hm1 : 1 ≤ m := by omega
  have hm7 : m ≤ 7 := by omega
  have HG4 := Lib.hid (tree_on hr4 m hm1 hm7 (by omega) hl HA'.out)
  clear hr4 hg4 hm
  go_wp2_with fail
  refine HG4.out.mono ?_
  rintro e w5 ⟨v5, L5, g5, rfl, hL5, hr5, hrd5, hgr5, hgR5, hvg5⟩
  have HR5 := Lib.hid (HR4.out.reads HV.out hgR hgr5)
  have HRB := Lib.hid hr5
  have HL5 := Lib.hid hL5
  have HB5 := Lib.hid (HB4.out.grown hgr5 (by have := ER.out; have := HB4.out.size; omega) (fun k hk => by cases hk; exact Nat.le_refl _))
  clear hr5 hL5 hrd5 hgr5
  go_wp2
  go_ret2
  exact ⟨_, L, _, L5, rfl, ⟨by have := HL.out; omega, by have := HL.out; omega⟩, ⟨by have := HL5.out; omega, by have := HL5.out; omega⟩, by rw [← ER.out]; exact HR5.out, by rw [← ER.out]; exact HRB.out, by rw [← ER.out]; exact HB5.out⟩
end Go.Proofs.YtkngijkhhonikaaDoor
