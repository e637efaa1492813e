/- DrawGraphJoin draws two lists. -/
import Derived.Test.YtjkepoalepmjoaaDoorBaseD
namespace Go.Proofs.YtjkepoalepmjoaaDoor
open Go Go.RowKit
set_option linter.unusedVariables false
set_option maxRecDepth 100000

/-- What a draw of two graphs gives. -/
def DrewTwo (p q : Nat) (w : World) (e : Ending) (w' : World) : Prop := ∃ v L v' L', e = .returned (.tuple #[v, v']) ∧ (1 ≤ L.length ∧ L.length ≤ p) ∧ (1 ≤ L'.length ∧ L'.length ≤ q) ∧ Row w' w.heap.size v L ∧ Row w' w.heap.size v' L' ∧ Below w.heap.size w w'
/-- A list is drawn from a reader somewhere in its bytes. -/
def DrewOn (w : World) (R n : Nat) (A : Option Addr) (c lim : Nat) (bs : List Nat) (e : Ending) (w' : World) : Prop :=
  ∃ v L g, e = .returned v ∧ L.length = n ∧ Row w' R v L ∧ Rdr w' R A c lim bs ∧ w.grownBy w' (some R) ∧ R < g ∧ v.ownBlock = some g
theorem rdr_graph {w : World} {R : Nat} {A : Option Addr} {c lim : Nat} {bs : List Nat} (h : Rdr w R A c lim bs) (n : Nat) (h1 : 1 ≤ n) (h6 : n ≤ 6) (hlim : lim ≤ 10000) (hl : bs.length ≤ 2000) (hAR : Under A bs R) :
    Calls Tryd.prog 65 #[.pointer (some ⟨R, 0, none⟩), .int .i64 (n : Nat)] w (DrewOn w R n A c (lim + 200) bs) := by
  obtain ⟨⟨q, hq, hR⟩, hb⟩ := h
  refine (drawGraph_any R A c q lim n bs h1 h6 hq hlim hl w hR hb hAR).mono ?_
  rintro e w' ⟨v, L, rfl, hL, hr, hbe, hq', hby, g, hg, ⟨_, hgr⟩, hv⟩
  exact ⟨v, L, g, rfl, hL, hr, ⟨hq', hby⟩, hgr, hg, hv⟩

set_option maxHeartbeats 2000000 in
theorem drawGraphJoin_any (A : Option Addr) (c : Nat) (bs : List Nat) (w : World) (h : Byts w A bs) (hc : bs.length ≤ c) (hA : Under A bs w.heap.size) :
    Calls Tryd.prog 41 #[.slice A bs.length c] w (DrewTwo 4 3 w) := by
  have HO := Lib.hid (open_any A c bs w h hc hA)
  obtain ⟨n, hn⟩ : ∃ n, n = bs.length := ⟨_, rfl⟩
  rw [← hn] at HO ⊢
  clear h hc hA hn
  go_enter Tryd.func41, Tryd.ntmps41
  go_wp2_with fail
  refine HO.out.mono ?_
  rintro e w1 ⟨bs', c', rfl, hl, hR, hb, hA', hbe⟩
  obtain ⟨R, eR⟩ : ∃ R, R = w.heap.size := ⟨_, rfl⟩
  rw [← eR] at hR hA' hbe ⊢
  have ER := Lib.hid eR
  have HA' := Lib.hid hA'
  have HBE := Lib.hid hbe
  have H1 := Lib.hid (show Rdr w1 R A c' 0 bs' from ⟨⟨0, Nat.le_refl _, hR⟩, hb⟩)
  clear hR hb hbe hA' eR
  go_wp2_with fail
  refine (rdr_pick H1.out 4 (by omega) (by omega) (by omega) hl HA'.out).mono ?_
  rintro e w2 ⟨x, hx, rfl, hr2, hg2⟩
  have H2 := Lib.hid hr2
  have HB2 := Lib.hid (HBE.out.grown hg2 (by have := ER.out; have := HBE.out.size; omega) (fun k hk => by cases hk; exact Nat.le_refl _))
  obtain ⟨y, hy⟩ : ∃ y, y = x + 1 := ⟨_, rfl⟩
  have hs : (1 : Int) + (x : Int) = (y : Nat) := by omega
  have hy6 : y ≤ 4 := by omega
  have hy1 : 1 ≤ y := by omega
  have hw := wrapN y (by omega)
  clear hr2 hg2 hy hx
  go_wp2_with fail
  refine (rdr_graph H2.out y hy1 (by omega) (by omega) hl HA'.out).mono ?_
  rintro e w3 ⟨v, L, g, rfl, hL, hr, hq3, hgr3, hgR, hvg⟩
  have H3 := Lib.hid hq3
  have HR3 := Lib.hid hr
  have HL := Lib.hid hL
  have HV := Lib.hid hvg
  have HB3 := Lib.hid (HB2.out.grown hgr3 (by have := ER.out; have := HB2.out.size; omega) (fun k hk => by cases hk; exact Nat.le_refl _))
  clear hr hL hq3 hvg hgr3 hs hw
  go_wp2_with fail
  refine (rdr_pick H3.out 3 (by omega) (by omega) (by omega) hl HA'.out).mono ?_
  rintro e w4 ⟨x4, hx4, rfl, hr4, hg4⟩
  have H4 := Lib.hid hr4
  have HR4 := Lib.hid (HR3.out.reads HV.out hgR hg4)
  have HB4 := Lib.hid (HB3.out.grown hg4 (by have := ER.out; have := HB3.out.size; omega) (fun k hk => by cases hk; exact Nat.le_refl _))
  obtain ⟨z, hz⟩ : ∃ z, z = x4 + 1 := ⟨_, rfl⟩
  have hs4 : (1 : Int) + (x4 : Int) = (z : Nat) := by omega
  have hz3 : z ≤ 3 := by omega
  have hz1 : 1 ≤ z := by omega
  have hw4 := wrapN z (by omega)
  clear hr4 hg4 hz hx4
  go_wp2_with fail
  refine (rdr_graph H4.out z hz1 (by omega) (by omega) hl HA'.out).mono ?_
  rintro e w5 ⟨v', L', g', rfl, hL', hr', hq5, hgr5, hgR', hvg'⟩
  have HR5 := Lib.hid (HR4.out.reads HV.out hgR hgr5)
  have HR5' := Lib.hid hr'
  have HL' := Lib.hid hL'
  have HB5 := Lib.hid (HB4.out.grown hgr5 (by have := ER.out; have := HB4.out.size; omega) (fun k hk => by cases hk; exact Nat.le_refl _))
  clear hr' hL' hq5 hgr5 hvg'
  go_wp2
  go_ret2
  exact ⟨_, L, _, L', rfl, ⟨by have := HL.out; omega, by have := HL.out; omega⟩, ⟨by have := HL'.out; omega, by have := HL'.out; omega⟩, by rw [← ER.out]; exact HR5.out, by rw [← ER.out]; exact HR5'.out, by rw [← ER.out]; exact HB5.out⟩
end Go.Proofs.YtjkepoalepmjoaaDoor
