/- l91Two draws two lists: a graph, and one like it or another one. -/
import Derived.Test.YtamabhdbcmjbjaaDoorDrawNames
import Derived.Test.YtamabhdbcmjbjaaDoorNamedLaw
namespace Go.Proofs.YtamabhdbcmjbjaaDoor
open Go Go.RowKit
set_option linter.unusedVariables false
set_option maxRecDepth 100000

/-- What a draw of two lists gives. -/
def DrewBoth (w : World) (R n : Nat) (e : Ending) (w' : World) : Prop := ∃ v L v' L', e = .returned (.tuple #[v, v']) ∧ L.length = n ∧ (1 ≤ L'.length ∧ L'.length ≤ 6) ∧ Row w' R v L ∧ Row w' R v' L' ∧ Below R w w'
/-- While the second list is written. -/
structure TwoI (w W : World) (R g gh n cp : Nat) (v : Value) (L : List Int) : Prop where
  one : Row W R v L
  two : ∃ xs : List Int, xs.length = n ∧ Row W R (.slice (some ⟨gh, 0, none⟩) n cp) xs
  low : Below R w W
theorem TwoI.put {w W : World} {R g gh n cp : Nat} {v : Value} {L : List Int} (h : TwoI w W R g gh n cp v L) (hv : v.ownBlock = some g) (hne : g ≠ gh) (hR : R ≤ gh) {i : Nat} (hi : i < n) (z : Int) :
    TwoI w (W.setCell ⟨gh, i, none⟩ (.int .i64 z)) R g gh n cp v L := by
  obtain ⟨xs, hl, hx⟩ := h.two
  exact ⟨World.ownsRow.kept h.one (grown_set (World.grownBy.refl W (some gh)) i (.int .i64 z)) (.inr (by rw [hv]; intro e; injection e with e; omega)), ⟨xs.set i z, by rw [List.length_set]; exact hl, hx.set i (by omega) z⟩, h.low.setCell (p := ⟨gh, i, none⟩) hR _⟩
theorem TwoI.drew {w W : World} {R g gh n cp : Nat} {v : Value} {L : List Int} (h : TwoI w W R g gh n cp v L) : TwoI w W.drew R g gh n cp v L := by
  obtain ⟨xs, hl, hx⟩ := h.two
  exact ⟨h.one.drewN 1, ⟨xs, hl, hx.drewN 1⟩, below_drewN h.low 1⟩
theorem TwoI.cells {w W : World} {R g gh n cp : Nat} {v : Value} {L : List Int} (h : TwoI w W R g gh n cp v L) {i : Nat} (hi : i < n) :
    ∃ x : Int, W.cell? ⟨gh, i, none⟩ = some (.int .i64 x) ∧ W.frozen? ⟨gh, i, none⟩ = false := by
  obtain ⟨xs, hl, hx⟩ := h.two
  exact ⟨_, hx.cellAt i (by omega), hx.frozenAt i (by omega)⟩
theorem TwoI.reads {w W W' : World} {R g gh n cp : Nat} {v : Value} {L : List Int} (h : TwoI w W R g gh n cp v L) (hv : v.ownBlock = some g) (hg : R < g) (hh : R < gh) (hgr : W.grownBy W' (some R)) : TwoI w W' R g gh n cp v L := by
  obtain ⟨xs, hl, hx⟩ := h.two
  exact ⟨h.one.reads hv hg hgr, ⟨xs, hl, hx.reads rfl hh hgr⟩, h.low.grown hgr (by have := h.one.lt g hv; omega) (fun k hk => by cases hk; exact Nat.le_refl _)⟩
theorem TwoI.done {w W : World} {R g gh n cp : Nat} {v : Value} {L : List Int} (h : TwoI w W R g gh n cp v L) (hL : L.length = n) (h1 : 1 ≤ n) (h5 : n ≤ 5) : DrewBoth w R n (.returned (.tuple #[v, .slice (some ⟨gh, 0, none⟩) n cp])) W := by
  obtain ⟨xs, hl, hx⟩ := h.two
  exact ⟨v, L, _, xs, rfl, hL, by omega, h.one, hx, h.low⟩
theorem named_told {w : World} {R : Nat} {v v2 : Value} {L N : List Int} {n : Nat} (hL : L.length = n) (hN : N.length = n) (hn : n ≤ 6) (h : Row w R v L) (h2 : Row w R v2 N) :
    ∃ (M : List Int) (ok : Bool), (ok = true → M.length = n) ∧ Calls Tryd.prog 81 #[v, v2] w (Told w M ok) := by
  by_cases hg : IsGraph L
  · by_cases hm : IsNames N L.length
    · exact ⟨_, true, fun _ => by rw [ints_length, mrun_length]; exact hL, specGNamed_both R R v v2 L N hg hm w h h2⟩
    · exact ⟨[], false, fun e => (by cases e), specGNamed_second R R v v2 L N hg hm (by omega) w h h2⟩
  · exact ⟨[], false, fun e => (by cases e), specGNamed_first R R v v2 L N hg w h h2⟩
theorem row_shape2 {w : World} {B : Nat} {v : Value} {xs : List Int} (h : Row w B v xs) (h1 : 1 ≤ xs.length) : ∃ b cp, v = .slice (some ⟨b, 0, none⟩) xs.length cp ∧ B ≤ b ∧ b < w.heap.size := by
  obtain ⟨A, c, rfl, hA⟩ := h.see
  obtain ⟨b, rfl, _⟩ := hA 0 h1
  have hb := h.lt b rfl
  exact ⟨b, c, rfl, hb⟩
set_option maxHeartbeats 4000000 in
theorem two_any {w : World} {R : Nat} {A : Option Addr} {c lim : Nat} {bs : List Nat} (h : Rdr w R A c lim bs) (n : Nat) (h1 : 1 ≤ n) (h5 : n ≤ 5) (hlim : lim ≤ 1000) (hl : bs.length ≤ 2000) (hAR : Under A bs R) :
    Calls Tryd.prog 68 #[.pointer (some ⟨R, 0, none⟩), .int .i64 (n : Nat)] w (DrewBoth w R n) := by
  have hRl := h.lt
  have H0 := Lib.hid h
  have HAR := Lib.hid hAR
  clear h hAR
  go_enter Tryd.func68, Tryd.ntmps68
  go_wp2_with fail
  refine (rdr_graph H0.out n h1 (by omega) (by omega) hl HAR.out).mono ?_
  rintro e w1 ⟨v, L, g, rfl, hL, hr, hq, hgr, hgR, hvg⟩
  have H1 := Lib.hid hq
  have HL := Lib.hid hL
  have HR1 := Lib.hid hr
  have HV := Lib.hid hvg
  have hg1 := (hr.lt g hvg).2
  have HB1 := Lib.hid ((Below.refl R w).grown hgr (by omega) (fun k hk => by cases hk; exact Nat.le_refl _))
  clear hq hL hr hvg hgr
  go_wp2_with fail
  refine (names_any H1.out n h1 (by omega) (by omega) hl HAR.out).mono ?_
  rintro e w2 ⟨v2, N, g2, rfl, hN, hr2, hq2, hgr2, hgR2, hvg2⟩
  have H2 := Lib.hid hq2
  have hR2 := hq2.lt
  have hsz2 := hgr2.size
  have HR2 := Lib.hid (HR1.out.reads HV.out hgR hgr2)
  have HB2 := Lib.hid (HB1.out.grown hgr2 (by have := HB1.out.size; omega) (fun k hk => by cases hk; exact Nat.le_refl _))
  obtain ⟨M, ok, hM, hC⟩ := named_told HL.out hN (by omega) HR2.out hr2
  have HC := Lib.hid hC
  have HM := Lib.hid hM
  clear hN hr2 hq2 hgr2 hvg2 hC hM HR1 HB1 H1 H0
  go_wp2_with fail
  refine HC.out.mono ?_
  rintro e w3 ⟨vh, rfl, rh, bb3⟩
  have H3 := Lib.hid (H2.out.below bb3 hR2 HAR.out)
  have HR3 := Lib.hid (HR2.out.below bb3)
  have HB3 := Lib.hid (HB2.out.trans (bb3.mono (Nat.le_of_lt hR2)))
  have RH := Lib.hid rh
  have hsz3 := bb3.size
  clear rh bb3 HC H2 HR2 HB2
  cases ok with
  | false =>
    clear RH HM
    go_wp2_with fail
    refine (rdr_pick H3.out 24 (by omega) (by omega) (by omega) hl HAR.out).mono ?_
    rintro e wa ⟨yq, hyq, rfl, hra, hga⟩
    have Ha := Lib.hid hra
    have HRa := Lib.hid (HR3.out.reads HV.out hgR hga)
    have HBa := Lib.hid (HB3.out.grown hga (by have := HB3.out.size; omega) (fun k hk => by cases hk; exact Nat.le_refl _))
    obtain ⟨q, hq1, hqe⟩ := div23 yq hyq
    obtain ⟨m, hm⟩ : ∃ m, m = n + q := ⟨_, rfl⟩
    have hs : (n : Int) + (q : Int) = (m : Nat) := by omega
    have hm6 : m ≤ 6 := by omega
    have hm1 : 1 ≤ m := by omega
    have hwm := wrapN m (by omega)
    clear hra hga hm
    go_wp2_with fail
    refine (rdr_graph Ha.out m hm1 hm6 (by omega) hl HAR.out).mono ?_
    rintro e wb ⟨v', L', g', rfl, hL', hr', _, hgrb, _, _⟩
    have HRb := Lib.hid (HRa.out.reads HV.out hgR hgrb)
    have HBb := Lib.hid (HBa.out.grown hgrb (by have := HBa.out.size; omega) (fun k hk => by cases hk; exact Nat.le_refl _))
    have HRR := Lib.hid hr'
    have HLL := Lib.hid hL'
    clear hr' hL' hgrb
    go_wp2
    go_ret2
    exact ⟨_, L, _, L', rfl, HL.out, by have := HLL.out; omega, HRb.out, HRR.out, HBb.out⟩
  | true =>
    have hM := HM.out rfl
    have hMs : 1 ≤ M.length := by omega
    obtain ⟨gh, cp, rfl, hgh, hgh2⟩ := row_shape2 RH.out hMs
    have hne : g ≠ gh := by omega
    have hRg : R ≤ gh := by omega
    have hRg2 : R < gh := by omega
    rw [hM] at RH ⊢
    have T3 := Lib.hid (show TwoI w w3 R g gh n cp v L from ⟨HR3.out, ⟨M, hM, RH.out.mono (by omega)⟩, HB3.out⟩)
    clear hM hMs RH HM hgh hgh2 HR3 HB3
    go_wp2_with fail
    refine (rdr_pick H3.out 4 (by omega) (by omega) (by omega) hl HAR.out).mono ?_
    rintro e w4 ⟨x, hx, rfl, hr4, hg4⟩
    have H4 := Lib.hid hr4
    have T4 := Lib.hid (T3.out.reads HV.out hgR hRg2 hg4)
    clear hr4 hg4 T3 H3
    by_cases hx0 : x = 0
    · have c0 : (((x : Nat) : Int) == 0) = true := by simp; omega
      clear hx0
      go_wp2_with fail
      refine (rdr_pick H4.out 24 (by omega) (by omega) (by omega) hl HAR.out).mono ?_
      rintro e wa ⟨yq, hyq, rfl, hra, hga⟩
      have Ha := Lib.hid hra
      have HRa := Lib.hid (T4.out.one.reads HV.out hgR hga)
      have HBa := Lib.hid (T4.out.low.grown hga (by have := T4.out.low.size; omega) (fun k hk => by cases hk; exact Nat.le_refl _))
      obtain ⟨q, hq1, hqe⟩ := div23 yq hyq
      obtain ⟨m, hm⟩ : ∃ m, m = n + q := ⟨_, rfl⟩
      have hs : (n : Int) + (q : Int) = (m : Nat) := by omega
      have hm6 : m ≤ 6 := by omega
      have hm1 : 1 ≤ m := by omega
      have hwm := wrapN m (by omega)
      clear hra hga hm
      go_wp2_with fail
      refine (rdr_graph Ha.out m hm1 hm6 (by omega) hl HAR.out).mono ?_
      rintro e wb ⟨v', L', g', rfl, hL', hr', _, hgrb, _, _⟩
      have HRb := Lib.hid (HRa.out.reads HV.out hgR hgrb)
      have HBb := Lib.hid (HBa.out.grown hgrb (by have := HBa.out.size; omega) (fun k hk => by cases hk; exact Nat.le_refl _))
      have HRR := Lib.hid hr'
      have HLL := Lib.hid hL'
      clear hr' hL' hgrb
      go_wp2
      go_ret2
      exact ⟨_, L, _, L', rfl, HL.out, by have := HLL.out; omega, HRb.out, HRR.out, HBb.out⟩
    · have c0 : (((x : Nat) : Int) == 0) = false := by simp; omega
      clear hx0
      by_cases hn1 : n = 1
      · have hgt : decide ((1 : Int) < (n : Int)) = false := by simp; omega
        clear hn1
        go_wp2
        go_ret2
        exact T4.out.done HL.out h1 h5
      · have hgt : decide ((1 : Int) < (n : Int)) = true := by simp; omega
        go_wp2_with fail
        refine (rdr_pick H4.out 3 (by omega) (by omega) (by omega) hl HAR.out).mono ?_
        rintro e w5 ⟨y, hy, rfl, hr5, hg5⟩
        have H5 := Lib.hid hr5
        have T5 := Lib.hid (T4.out.reads HV.out hgR hRg2 hg5)
        clear hr5 hg5 T4 H4
        by_cases hy0 : y = 0
        · have c1 : (((y : Nat) : Int) == 0) = true := by simp; omega
          clear hy0
          obtain ⟨m, hm⟩ : ∃ m, m = n - 1 := ⟨_, rfl⟩
          have hs : (n : Int) - 1 = (m : Nat) := by omega
          have hm1 : 1 ≤ m := by omega
          have hmn : m < n := by omega
          have hw := wrapN m (by omega)
          clear hm hn1
          go_wp2_with fail
          refine (rdr_pick H5.out m hm1 (by omega) (by omega) hl HAR.out).mono ?_
          rintro e w6 ⟨a, ha, rfl, hr6, hg6⟩
          have T6 := Lib.hid (T5.out.reads HV.out hgR hRg2 hg6)
          clear hr6 hg6 T5 H5
          have han : a < n := by omega
          obtain ⟨x6, k6, f6⟩ := T6.out.cells han
          have ia : (0 : Int) ≤ (a : Int) ∧ (a : Int) < (n : Int) := by omega
          have im : (0 : Int) ≤ (m : Int) ∧ (m : Int) < (n : Int) := by omega
          have ha64 : a < 64 := by omega
          have hm64 : m < 64 := by omega
          go_wp2
          go_still_tail 11, (by kernel_rfl)
          change wpList _ _ _ _ _ (World.drew _)
          go_wp2
          refine at_worldD (P := fun W => Code.wp _ _ _ _ W) _ ?_
          intro w7 hw7
          have T7 : Hid (TwoI w w7 R g gh n cp v L) := Lib.hid (by rw [hw7]; first | exact (T6.out.put HV.out hne hRg han _).drew | exact T6.out.drew.put HV.out hne hRg han _)
          clear hw7 k6 f6
          obtain ⟨x7, k7, f7⟩ := T7.out.cells hmn
          go_still_tail 12, (by kernel_rfl)
          change wpList _ _ _ _ _ (World.drew _)
          go_wp2
          go_ret2
          first | exact (T7.out.put HV.out hne hRg hmn _).drew.done HL.out h1 h5 | exact (T7.out.drew.put HV.out hne hRg hmn _).done HL.out h1 h5
        · have c1 : (((y : Nat) : Int) == 0) = false := by simp; omega
          clear hy0
          go_wp2
          go_ret2
          exact T5.out.done HL.out h1 h5
end Go.Proofs.YtamabhdbcmjbjaaDoor
