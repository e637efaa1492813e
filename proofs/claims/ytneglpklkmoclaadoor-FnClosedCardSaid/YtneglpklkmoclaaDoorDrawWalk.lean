/- A list of one to six nodes and a length are drawn from bytes. -/
import Derived.Test.YtneglpklkmoclaaDoorRdr
import Derived.Test.YtneglpklkmoclaaDoorBaseF
namespace Go.Proofs.YtneglpklkmoclaaDoor
open Go Go.RowKit
set_option linter.unusedVariables false
set_option maxRecDepth 100000

set_option maxHeartbeats 2000000 in
theorem walk_any (A : Option Addr) (c : Nat) (bs : List Nat) (w : World) (h : Byts w A bs) (hc : bs.length ≤ c) (hA : Under A bs w.heap.size) :
    Calls Tryd.prog 31 #[.slice A bs.length c] w (DrewZ w) := by
  have HO := Lib.hid (open_any A c bs w h hc hA)
  obtain ⟨n, hn⟩ : ∃ n, n = bs.length := ⟨_, rfl⟩
  rw [← hn] at HO ⊢
  clear h hc hA hn
  go_enter Tryd.func31, Tryd.ntmps31
  go_wp2_with fail
  refine HO.out.mono ?_
  rintro e w1 ⟨bs', c', rfl, hl, hR, hb, hA', hbe⟩
  obtain ⟨R, eR⟩ : ∃ R, R = w.heap.size := ⟨_, rfl⟩
  rw [← eR] at hR hA' hbe ⊢
  have ER := Lib.hid eR
  have HA' := Lib.hid hA'
  have HBE := Lib.hid hbe
  have H1 := Lib.hid (show Rdr w1 R A c' 0 bs' from ⟨⟨0, Nat.le_refl _, hR⟩, hb⟩)
  clear hR hb hbe hA' eR
  go_wp2_with fail
  refine (rdr_pick H1.out 6 (by omega) (by omega) (by omega) hl HA'.out).mono ?_
  rintro e w2 ⟨x, hx, rfl, hr2, hg2⟩
  have H2 := Lib.hid hr2
  have HB2 := Lib.hid (HBE.out.grown hg2 (by have := ER.out; have := HBE.out.size; omega) (fun k hk => by cases hk; exact Nat.le_refl _))
  obtain ⟨y, hy⟩ : ∃ y, y = x + 1 := ⟨_, rfl⟩
  have hs : (1 : Int) + (x : Int) = (y : Nat) := by omega
  have hy6 : y ≤ 6 := by omega
  have hy1 : 1 ≤ y := by omega
  obtain ⟨⟨q, hq, hRq⟩, hbq⟩ := hr2
  have HG := Lib.hid (drawGraph_any R A c' q 1 y bs' hy1 hy6 hq (by omega) hl w2 hRq hbq HA'.out)
  clear hg2 hRq hbq hy
  go_wp2_with fail
  refine HG.out.mono ?_
  rintro e w3 ⟨v, L, rfl, hL, hr, hb3, hq3, hby3, g, hgR, _, hvg⟩
  have H3 := Lib.hid (show Rdr w3 R A c' 201 bs' from ⟨hq3, hby3⟩)
  have HR3 := Lib.hid hr
  have HL := Lib.hid hL
  have HV := Lib.hid hvg
  have HB3 := Lib.hid (HB2.out.trans hb3)
  clear hr hL hb3 hq3 hby3 hvg
  go_wp2_with fail
  refine (rdr_pick H3.out 9 (by omega) (by omega) (by omega) hl HA'.out).mono ?_
  rintro e w4 ⟨x4, hx4, rfl, hr4, hg4⟩
  have H4 := Lib.hid hr4
  have HR4 := Lib.hid (HR3.out.reads HV.out hgR hg4)
  have HB4 := Lib.hid (HB3.out.grown hg4 (by have := ER.out; have := HB3.out.size; omega) (fun k hk => by cases hk; exact Nat.le_refl _))
  clear hr4 hg4
  go_wp2_with fail
  refine (rdr_pick H4.out 24 (by omega) (by omega) (by omega) hl HA'.out).mono ?_
  rintro e w5 ⟨x5, hx5, rfl, hr5, hg5⟩
  have H5 := Lib.hid hr5
  have HR5 := Lib.hid (HR4.out.reads HV.out hgR hg5)
  have HB5 := Lib.hid (HB4.out.grown hg5 (by have := ER.out; have := HB4.out.size; omega) (fun k hk => by cases hk; exact Nat.le_refl _))
  obtain ⟨q5, hq5, t5⟩ := div23 x5 hx5
  obtain ⟨z5, hz5⟩ : ∃ z : Int, (x4 : Int) - (q5 : Int) = z := ⟨_, rfl⟩
  have hzb5 : -1 ≤ z5 ∧ z5 ≤ 8 := by omega
  have hwz5 : wrap64 z5 = z5 := by unfold wrap64; omega
  clear hr5 hg5
  go_wp2_with fail
  refine (rdr_pick H5.out 24 (by omega) (by omega) (by omega) hl HA'.out).mono ?_
  rintro e w6 ⟨x6, hx6, rfl, hr6, hg6⟩
  have HR6 := Lib.hid (HR5.out.reads HV.out hgR hg6)
  have HB6 := Lib.hid (HB5.out.grown hg6 (by have := ER.out; have := HB5.out.size; omega) (fun k hk => by cases hk; exact Nat.le_refl _))
  obtain ⟨q6, hq6, t6⟩ := div23 x6 hx6
  obtain ⟨z, hz⟩ : ∃ z : Int, z5 + (q6 : Int) * 5 = z := ⟨_, rfl⟩
  have hzb : -100 ≤ z ∧ z ≤ 100 := by omega
  have hwz : wrap64 z = z := by unfold wrap64; omega
  have HZB := Lib.hid hzb
  clear hr6 hg6 hzb
  go_wp2
  go_ret2
  exact ⟨_, L, _, rfl, by have := HL.out; omega, by have := HL.out; omega, HZB.out.1, HZB.out.2, by rw [← ER.out]; exact HR6.out, by rw [← ER.out]; exact HB6.out⟩
end Go.Proofs.YtneglpklkmoclaaDoor
