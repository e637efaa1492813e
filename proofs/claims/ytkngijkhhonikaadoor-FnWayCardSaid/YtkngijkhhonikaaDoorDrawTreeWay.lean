/- DrawTreeWay draws a list and two numbers. -/
import Derived.Test.YtkngijkhhonikaaDoorDrawTree
import Derived.Test.YtkngijkhhonikaaDoorBaseF
import Derived.OwnWalk
namespace Go.Proofs.YtkngijkhhonikaaDoor
open Go Go.RowKit
set_option linter.unusedVariables false
set_option maxRecDepth 100000

/-- What a draw of a list and two numbers gives. -/
def DrewW (w : World) (e : Ending) (w' : World) : Prop := ∃ v L z y, e = .returned (.tuple #[v, .int .i64 z, .int .i64 y]) ∧ 1 ≤ L.length ∧ L.length ≤ 6 ∧ (-100 ≤ z ∧ z ≤ 100) ∧ (-100 ≤ y ∧ y ≤ 100) ∧ Row w' w.heap.size v L ∧ Below w.heap.size w w'
set_option maxHeartbeats 2000000 in
theorem drawTreeWay_any (A : Option Addr) (c : Nat) (bs : List Nat) (w : World) (h : Byts w A bs) (hc : bs.length ≤ c) (hA : Under A bs w.heap.size) :
    Calls Tryd.prog 23 #[.slice A bs.length c] w (DrewW w) := by
  have HO := Lib.hid (open_any A c bs w h hc hA)
  obtain ⟨n, hn⟩ : ∃ n, n = bs.length := ⟨_, rfl⟩
  rw [← hn] at HO ⊢
  clear h hc hA hn
  go_enter Tryd.func23, Tryd.ntmps23
  go_wp2_with fail
  refine HO.out.mono ?_
  rintro e w1 ⟨bs', c', rfl, hl, hR, hb, hA', hbe⟩
  obtain ⟨R, eR⟩ : ∃ R, R = w.heap.size := ⟨_, rfl⟩
  rw [← eR] at hR hA' hbe ⊢
  have ER := Lib.hid eR
  have HA' := Lib.hid hA'
  have HBE := Lib.hid hbe
  have H1 := Lib.hid (show Rdr w1 R A c' 0 bs' from ⟨⟨0, Nat.le_refl _, hR⟩, hb⟩)
  clear hR hb hbe hA' eR
  go_wp2_with fail
  refine (rdr_pick H1.out 6 (by omega) (by omega) (by omega) hl HA'.out).mono ?_
  rintro e w2 ⟨x, hx, rfl, hr2, hg2⟩
  have HB2 := Lib.hid (HBE.out.grown hg2 (by have := ER.out; have := HBE.out.size; omega) (fun k hk => by cases hk; exact Nat.le_refl _))
  obtain ⟨y, hy⟩ : ∃ y, y = x + 1 := ⟨_, rfl⟩
  have hs : (1 : Int) + (x : Int) = (y : Nat) := by omega
  have hy6 : y ≤ 6 := by omega
  have hy1 : 1 ≤ y := by omega
  have HG := Lib.hid (tree_on hr2 y hy1 (by omega) (by omega) hl HA'.out)
  clear hg2 hr2 hy
  go_wp2_with fail
  refine HG.out.mono ?_
  rintro e w3 ⟨v, L, g, rfl, hL, hr, hrd3, hgr, hgR, hvg⟩
  have H3 := Lib.hid hrd3
  have HR3 := Lib.hid hr
  have HL := Lib.hid hL
  have HV := Lib.hid hvg
  have HB3 := Lib.hid (HB2.out.grown hgr (by have := ER.out; have := HB2.out.size; omega) (fun k hk => by cases hk; exact Nat.le_refl _))
  clear hr hL hrd3 hgr hvg
  go_wp2_with fail
  refine (rdr_pick H3.out y hy1 (by omega) (by omega) hl HA'.out).mono ?_
  rintro e w4 ⟨x4, hx4, rfl, hr4, hg4⟩
  have H4 := Lib.hid hr4
  have HR4 := Lib.hid (HR3.out.reads HV.out hgR hg4)
  have HB4 := Lib.hid (HB3.out.grown hg4 (by have := ER.out; have := HB3.out.size; omega) (fun k hk => by cases hk; exact Nat.le_refl _))
  clear hr4 hg4
  go_wp2_with fail
  refine (rdr_pick H4.out 24 (by omega) (by omega) (by omega) hl HA'.out).mono ?_
  rintro e w5 ⟨x5, hx5, rfl, hr5, hg5⟩
  have H5 := Lib.hid hr5
  have HR5 := Lib.hid (HR4.out.reads HV.out hgR hg5)
  have HB5 := Lib.hid (HB4.out.grown hg5 (by have := ER.out; have := HB4.out.size; omega) (fun k hk => by cases hk; exact Nat.le_refl _))
  obtain ⟨q5, hq5, t5⟩ := div23 x5 hx5
  obtain ⟨m, hm⟩ : ∃ m, m = y + q5 := ⟨_, rfl⟩
  have hs5 : (y : Int) + (q5 : Int) = (m : Nat) := by omega
  have hm1 : 1 ≤ m := by omega
  have hm7 : m ≤ 7 := by omega
  clear hr5 hg5 hm
  go_wp2_with fail
  refine (rdr_pick H5.out m hm1 (by omega) (by omega) hl HA'.out).mono ?_
  rintro e w6 ⟨x6, hx6, rfl, hr6, hg6⟩
  have H6 := Lib.hid hr6
  have HR6 := Lib.hid (HR5.out.reads HV.out hgR hg6)
  have HB6 := Lib.hid (HB5.out.grown hg6 (by have := ER.out; have := HB5.out.size; omega) (fun k hk => by cases hk; exact Nat.le_refl _))
  clear hr6 hg6
  go_wp2_with fail
  refine (rdr_pick H6.out 24 (by omega) (by omega) (by omega) hl HA'.out).mono ?_
  rintro e w7 ⟨x7, hx7, rfl, hr7, hg7⟩
  have HR7 := Lib.hid (HR6.out.reads HV.out hgR hg7)
  have HB7 := Lib.hid (HB6.out.grown hg7 (by have := ER.out; have := HB6.out.size; omega) (fun k hk => by cases hk; exact Nat.le_refl _))
  obtain ⟨q7, hq7, t7⟩ := div23 x7 hx7
  obtain ⟨z, hz⟩ : ∃ z : Int, (x6 : Int) - (q7 : Int) = z := ⟨_, rfl⟩
  have hzb : -100 ≤ z ∧ z ≤ 100 := by omega
  have hxb : -100 ≤ ((x4 : Nat) : Int) ∧ ((x4 : Nat) : Int) ≤ 100 := by omega
  have hwz : IntKind.i64.wrap z = z := by rw [IntKind.wrap_i64]; omega
  have HZB := Lib.hid hzb
  have HXB := Lib.hid hxb
  clear hr7 hg7 hzb hxb
  go_wp2
  go_ret3
  exact ⟨_, L, _, _, rfl, by have := HL.out; omega, by have := HL.out; omega, HXB.out, HZB.out, by rw [← ER.out]; exact HR7.out, by rw [← ER.out]; exact HB7.out⟩
end Go.Proofs.YtkngijkhhonikaaDoor
