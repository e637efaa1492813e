/- l93Edges draws a list of one to five numbers and a set of edges, or another number. -/
import Derived.Test.YtamabhdbcmjbjaaDoorBaseF
import Derived.Test.YtamabhdbcmjbjaaDoorCodeAny
namespace Go.Proofs.YtamabhdbcmjbjaaDoor
open Go Go.RowKit
set_option linter.unusedVariables false
set_option maxRecDepth 100000

/-- What a draw of a list and a set of edges gives. -/
def DrewE (w : World) (e : Ending) (w' : World) : Prop := ∃ v L z, e = .returned (.tuple #[v, .int .i64 z]) ∧ 1 ≤ L.length ∧ L.length ≤ 5 ∧ -1 ≤ z ∧ z ≤ 65536 ∧ Row w' w.heap.size v L ∧ Below w.heap.size w w'
set_option maxHeartbeats 4000000 in
theorem edges_draw (A : Option Addr) (c : Nat) (bs : List Nat) (w : World) (h : Byts w A bs) (hc : bs.length ≤ c) (hA : Under A bs w.heap.size) :
    Calls Tryd.prog 32 #[.slice A bs.length c] w (DrewE w) := by
  have HO := Lib.hid (open_any A c bs w h hc hA)
  obtain ⟨n, hn⟩ : ∃ n, n = bs.length := ⟨_, rfl⟩
  rw [← hn] at HO ⊢
  clear h hc hA hn
  go_enter Tryd.func32, Tryd.ntmps32
  go_wp2_with fail
  refine HO.out.mono ?_
  rintro e w1 ⟨bs', c', rfl, hl, hR, hb, hA', hbe⟩
  obtain ⟨R, eR⟩ : ∃ R, R = w.heap.size := ⟨_, rfl⟩
  rw [← eR] at hR hA' hbe ⊢
  have ER := Lib.hid eR
  have HA' := Lib.hid hA'
  have HBE := Lib.hid hbe
  have H1 := Lib.hid (show Rdr w1 R A c' 0 bs' from ⟨⟨0, Nat.le_refl _, hR⟩, hb⟩)
  clear hR hb hbe hA' eR
  go_wp2_with fail
  refine (rdr_pick H1.out 5 (by omega) (by omega) (by omega) hl HA'.out).mono ?_
  rintro e w2 ⟨x, hx, rfl, hr2, hg2⟩
  have HB2 := Lib.hid (HBE.out.grown hg2 (by have := ER.out; have := HBE.out.size; omega) (fun k hk => by cases hk; exact Nat.le_refl _))
  obtain ⟨y, hy⟩ : ∃ y, y = x + 1 := ⟨_, rfl⟩
  have hs : (1 : Int) + (x : Int) = (y : Nat) := by omega
  have hy5 : y ≤ 5 := by omega
  have hy1 : 1 ≤ y := by omega
  have HG := Lib.hid (rdr_graph hr2 y hy1 (by omega) (by omega) hl HA'.out)
  clear hg2 hr2 hy
  go_wp2_with fail
  refine HG.out.mono ?_
  rintro e w3 ⟨v, L, g, rfl, hL, hr, hrd3, hgr, hgR, hvg⟩
  obtain ⟨A1, c1, hv, hsn⟩ := hr.seen
  have HC := Lib.hid (code_any6 A1 c1 L (by omega) (by omega) w3 hsn)
  rw [← hv] at HC
  have H3 := Lib.hid hrd3
  have HR3 := Lib.hid hr
  have HL := Lib.hid hL
  have HV := Lib.hid hvg
  have HGR := Lib.hid hgR
  have HYB := Lib.hid (And.intro hy1 hy5)
  have HB3 := Lib.hid (HB2.out.grown hgr (by have := ER.out; have := HB2.out.size; omega) (fun k hk => by cases hk; exact Nat.le_refl _))
  clear hr hL hrd3 hgr hvg hgR hsn hv hs hy5 hy1 hx
  go_wp2_with fail
  refine HC.out.mono ?_
  rintro e w4 ⟨a, ha, rfl, rfl⟩
  clear HC HG
  go_wp2
  go_loopw [6, 8] (fun s i wr => ∃ k q : Nat, k ≤ 15 ∧ i = .int .i64 k ∧ s = .int .i64 q ∧ Hid (q < 2 ^ k) ∧ Hid (Rdr wr R A c' (300 + k) bs') ∧ Hid (Row wr R v L) ∧ Hid (Below R w wr)) (fun _ i _ => 15 - (intOf i).toNat)
  case atStart => exact ⟨0, 0, Nat.zero_le _, rfl, rfl, Lib.hid (by decide), Lib.hid (H3.out.more (by omega)), HR3, HB3⟩
  case round =>
    obtain ⟨k, q, hk, rfl, rfl, hq, hrd, hrw, hb⟩ := hrel
    have hq15 : q < 32768 := Nat.lt_of_lt_of_le hq.out (Nat.pow_le_pow_right (n := 2) (by decide) hk : 2 ^ k ≤ 2 ^ 15)
    by_cases hlt : k < 15
    · have hki : (k : Int) < 15 := by omega
      go_wp2_with fail
      refine (rdr_pick hrd.out 2 (by omega) (by omega) (by omega) hl HA'.out).mono ?_
      rintro e w5 ⟨x5, hx5, rfl, hr5, hg5⟩
      have HQ5 := Lib.hid (show 2 * q + x5 < 2 ^ (k + 1) by have := hq.out; rw [Nat.pow_succ]; omega)
      have HR5 := Lib.hid hr5
      have HW5 := Lib.hid (hrw.out.reads HV.out HGR.out hg5)
      have HB5 := Lib.hid (hb.out.grown hg5 (by have := ER.out; have := hb.out.size; omega) (fun k hk => by cases hk; exact Nat.le_refl _))
      clear hr5 hg5 hq hrd hrw hb
      go_wp2
      go_roundw
      case rel => exact ⟨k + 1, 2 * q + x5, by omega, by go_num, by go_num, HQ5, Lib.hid (HR5.out.more (by omega)), HW5, HB5⟩
      case measure => simp [intOf]; omega
    · have hand : bits .and .i64 (q : Int) (a : Int) = ((q &&& a : Nat) : Int) := i64_and_nat q a (by omega) (by omega)
      have hle : q &&& a ≤ q := Nat.and_le_left
      obtain ⟨s, es⟩ : ∃ s, s = q &&& a := ⟨_, rfl⟩
      rw [← es] at hand hle
      have hk15 : ¬ k < 15 := hlt
      clear es
      go_wp2_with fail
      refine (rdr_pick hrd.out 24 (by omega) (by omega) (by omega) hl HA'.out).mono ?_
      rintro e w6 ⟨x6, hx6, rfl, hr6, hg6⟩
      have HW6 := Lib.hid (hrw.out.reads HV.out HGR.out hg6)
      have HB6 := Lib.hid (hb.out.grown hg6 (by have := ER.out; have := hb.out.size; omega) (fun k hk => by cases hk; exact Nat.le_refl _))
      have HSB := Lib.hid (show s < 32768 by omega)
      have HAB := Lib.hid ha
      have h0 : x6 = 0 ∨ x6 = 1 ∨ 2 ≤ x6 := by omega
      clear hr6 hg6 hq hrd hrw hb
      rcases h0 with rfl | rfl | h2
      · go_wp2
        go_ret2
        exact ⟨_, L, _, rfl, by have := HL.out; have := HYB.out; omega, by have := HL.out; have := HYB.out; omega, by have := HAB.out; omega, by have := HAB.out; omega, by rw [← ER.out]; exact HW6.out, by rw [← ER.out]; exact HB6.out⟩
      · go_wp2
        go_ret2
        exact ⟨_, L, _, rfl, by have := HL.out; have := HYB.out; omega, by have := HL.out; have := HYB.out; omega, by omega, by omega, by rw [← ER.out]; exact HW6.out, by rw [← ER.out]; exact HB6.out⟩
      · have b0 : ((x6 : Int) == 0) = false := by simp; omega
        have b1 : ((x6 : Int) == 1) = false := by simp; omega
        go_wp2
        go_ret2
        exact ⟨_, L, _, rfl, by have := HL.out; have := HYB.out; omega, by have := HL.out; have := HYB.out; omega, by omega, by have := HSB.out; omega, by rw [← ER.out]; exact HW6.out, by rw [← ER.out]; exact HB6.out⟩
end Go.Proofs.YtamabhdbcmjbjaaDoor
