/- A graph and a set are drawn. -/
import Derived.Test.YtdgceglbnfdhbaaDoorRdr
import Derived.Test.YtdgceglbnfdhbaaDoorDrawGraph
import Derived.Deep.RegionWith
namespace Go.Proofs.YtdgceglbnfdhbaaDoor
open Go Go.RowKit
set_option linter.unusedVariables false
set_option maxRecDepth 100000

theorem set_z {x q m : Nat} (h : x < m) (hm : m ≤ 65) (hq : q ≤ 1) : ∃ z : Int, (x : Int) - (q : Int) = z ∧ IntKind.i64.wrap z = z ∧ -100 ≤ z ∧ z ≤ 100 := by
  refine ⟨_, rfl, ?_, by omega, by omega⟩
  rw [IntKind.wrap_i64]
  omega

set_option maxHeartbeats 2000000 in
theorem set_any (A : Option Addr) (c : Nat) (bs : List Nat) (w : World) (h : Byts w A bs) (hc : bs.length ≤ c) (hA : Under A bs w.heap.size) :
    Calls Tryd.prog 45 #[.slice A bs.length c] w (DrewZ w) := by
  have HO := Lib.hid (open_any A c bs w h hc hA)
  obtain ⟨n, hn⟩ : ∃ n, n = bs.length := ⟨_, rfl⟩
  rw [← hn] at HO ⊢
  clear h hc hA hn
  go_enter Tryd.func45, Tryd.ntmps45
  go_wp2_with fail
  refine HO.out.mono ?_
  rintro e w1 ⟨bs', c', rfl, hl, hR, hb, hA', hbe⟩
  obtain ⟨R, eR⟩ : ∃ R, R = w.heap.size := ⟨_, rfl⟩
  rw [← eR] at hR hA' hbe ⊢
  have ER := Lib.hid eR
  have HA' := Lib.hid hA'
  have HBE := Lib.hid hbe
  have H1 := Lib.hid (show Rdr w1 R A c' 0 bs' from ⟨⟨0, Nat.le_refl _, hR⟩, hb⟩)
  clear hR hb hbe hA' eR
  go_wp2_with fail
  refine (rdr_pick H1.out 6 (by omega) (by omega) (by omega) hl HA'.out).mono ?_
  rintro e w2 ⟨x, hx, rfl, hr2, hg2⟩
  have H2 := Lib.hid hr2
  have HB2 := Lib.hid (HBE.out.grown hg2 (by have := ER.out; have := HBE.out.size; omega) (fun k hk => by cases hk; exact Nat.le_refl _))
  obtain ⟨y, hy⟩ : ∃ y, y = x + 1 := ⟨_, rfl⟩
  have hs : (1 : Int) + (x : Int) = (y : Nat) := by omega
  have hy6 : y ≤ 6 := by omega
  have hy1 : 1 ≤ y := by omega
  obtain ⟨⟨q, hq, hRq⟩, hbq⟩ := hr2
  have HG := Lib.hid (drawGraph_any R A c' q 1 y bs' hy1 hy6 hq (by omega) hl w2 hRq hbq HA'.out)
  clear hg2 hRq hbq hy
  go_wp2_with fail
  refine HG.out.mono ?_
  rintro e w3 ⟨v, L, rfl, hL, hr, hb3, hq3, hby3, g, hgR, _, hvg⟩
  have H3 := Lib.hid (show Rdr w3 R A c' 201 bs' from ⟨hq3, hby3⟩)
  have HR3 := Lib.hid hr
  have HL := Lib.hid hL
  have HV := Lib.hid hvg
  have HB3 := Lib.hid (HB2.out.trans hb3)
  clear hr hL hb3 hq3 hby3 hvg
  obtain ⟨P, Q, hP, hQ, hP64, s1, s2, s3, s4, s5⟩ := shl_facts y hy6
  have hP1 : 1 ≤ P := by rw [hP]; exact two_pos y
  have H3d := Lib.hid (show Rdr w3.drew R A c' 201 bs' from H3.out)
  have HR3d := Lib.hid (show Row w3.drew R v L from HR3.out)
  have HB3d := Lib.hid (HB3.out.drew)
  have RS3 : Hid (R ≤ w3.drew.heap.size) := Lib.hid (by have := ER.out; have := HB3.out.size; show R ≤ w3.heap.size; clear s1 s2 s3 s4 s5 hP hQ hP64 hP1; omega)
  have HP1 := Lib.hid hP1
  have HP64 := Lib.hid hP64
  clear hP H3 HR3 HB3 hP1 hP64 hQ s3 s4 s5
  go_wp2
  go_region_with (first
    | (with_reducible refine Calls.mono (rdr_pick H5.out 24 (by decide) (by decide) (by decide) hl HA'.out) ?_
       rintro e w6 ⟨x6, hx6, rfl, hr6, hg6⟩
       have HR6 := Lib.hid (HR5.out.reads HV.out hgR hg6)
       have HB6 := Lib.hid (HB5.out.grown hg6 RS5.out (fun k hk => by cases hk; exact Nat.le_refl _))
       obtain ⟨q6, hq6, t6⟩ := div23 x6 hx6
       have wq6 := wrapN q6 (Nat.lt_of_le_of_lt hq6 (by decide))
       obtain ⟨z, hz, hwz, hzb⟩ := set_z hx5 HM65.out hq6
       have HZB := Lib.hid hzb
       clear hr6 hg6 hzb)
    | (with_reducible refine Calls.mono (rdr_pick H4.out m HM1.out (Nat.le_trans HM65.out (by decide)) (by decide) hl HA'.out) ?_
       rintro e w5 ⟨x5, hx5, rfl, hr5, hg5⟩
       have H5 := Lib.hid hr5
       have HR5 := Lib.hid (HR4.out.reads HV.out hgR hg5)
       have HB5 := Lib.hid (HB4.out.grown hg5 RS4.out (fun k hk => by cases hk; exact Nat.le_refl _))
       have RS5 := Lib.hid (Nat.le_trans RS4.out hg5.size)
       clear hr5 hg5)
    | (with_reducible refine Calls.mono (rdr_pick H3d.out 24 (by decide) (by decide) (by decide) hl HA'.out) ?_
       rintro e w4 ⟨x4, hx4, rfl, hr4, hg4⟩
       have H4 := Lib.hid hr4
       have HR4 := Lib.hid (HR3d.out.reads HV.out hgR hg4)
       have HB4 := Lib.hid (HB3d.out.grown hg4 RS3.out (fun k hk => by cases hk; exact Nat.le_refl _))
       have RS4 := Lib.hid (Nat.le_trans RS3.out hg4.size)
       obtain ⟨q4, hq4, t4⟩ := div23 x4 hx4
       have wq4 := wrapN q4 (Nat.lt_of_le_of_lt hq4 (by decide))
       obtain ⟨m, hm⟩ : ∃ m, m = P + q4 := ⟨_, rfl⟩
       have hs4 : (P : Int) + (q4 : Int) = (m : Nat) := by rw [hm, Int.natCast_add]
       have HM1 : Hid (1 ≤ m) := Lib.hid (hm ▸ Nat.le_trans HP1.out (Nat.le_add_right P q4))
       have HM65 : Hid (m ≤ 65) := Lib.hid (hm ▸ Nat.add_le_add HP64.out hq4)
       have hw4 := wrapN m (Nat.lt_of_le_of_lt HM65.out (by decide))
       clear hr4 hg4 hm))
  all_goals go_wp2
  all_goals go_ret2
  all_goals exact ⟨_, L, _, rfl, by have := HL.out; omega, by have := HL.out; omega, HZB.out.1, HZB.out.2, by rw [← ER.out]; exact HR6.out, by rw [← ER.out]; exact HB6.out⟩
end Go.Proofs.YtdgceglbnfdhbaaDoor
