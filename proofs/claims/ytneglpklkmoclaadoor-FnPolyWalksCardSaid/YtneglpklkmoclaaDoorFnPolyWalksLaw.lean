/- The law FnPolyWalks returns true and leaves all that was there as it was, whatever is drawn. -/
import Derived.Test.YtneglpklkmoclaaDoorBaseF
import Derived.Test.YtneglpklkmoclaaDoorPolyAny
import Derived.Test.YtneglpklkmoclaaDoorBaseW
import Derived.Test.YtneglpklkmoclaaDoorSameInts
import Derived.Test.YtneglpklkmoclaaDoorNumProm
namespace Go.Proofs.YtneglpklkmoclaaDoor
open Go Go.RowKit
set_option linter.unusedVariables false
set_option maxRecDepth 100000

set_option maxHeartbeats 800000 in
theorem fnPolyWalks_long (A : Option Addr) (n c : Nat) (w : World) (h : 1048576 < n) (hm : n ≤ maxLen) :
    Calls Tryd.prog 7 #[.slice A n c] w (Fine w) := by
  unfold maxLen at hm
  have hd : decide ((1048576 : Int) < (n : Int)) = true := by simp; omega
  go_enter Tryd.func7, Tryd.ntmps7
  go_wp2
  go_ret
  exact ⟨rfl, Below.refl _ _⟩

set_option maxHeartbeats 4000000 in
theorem fnPolyWalks_short (A : Option Addr) (n c : Nat) (w : World) (hs : n ≤ 1048576) (hT : Tab w)
    (hD : Calls Tryd.prog 20 #[.slice A n c] w (Drew6 w)) :
    Calls Tryd.prog 7 #[.slice A n c] w (Fine w) := by
  have h2 := hT.lt
  have hd : decide ((1048576 : Int) < (n : Int)) = false := by simp; omega
  have HD := Lib.hid hD
  have HT := Lib.hid hT
  clear hD hT hs
  go_enter Tryd.func7, Tryd.ntmps7
  go_wp2_with fail
  refine HD.out.mono ?_
  rintro e w1 ⟨v, L, rfl, l1, l6, r, b1⟩
  by_cases h : IsGraph L
  · have HI := Lib.hid (fun B v w => implPoly_any B v L w)
    have HS := Lib.hid (fun B v w => specPolyN_any B v L w)
    rw [polySaid_yes h] at HI HS
    have HC : Hid (∀ k : Nat, k ≤ 12 → ∀ B v w, Row w B v L → Tab w → Calls Tryd.prog 16 #[v, .int .i64 k] w (NumOkA w (closedN L k) true)) := Lib.hid fun k hk B v w hr ht => by
      have := implClosed_any B v L k w hr ht
      rw [walkSaid_yes h hk] at this
      exact this
    have HCS : Hid (∀ k : Nat, k ≤ 6 → closedN L k ≤ 13060694016) := Lib.hid fun k hk => closed_small L h.2.1 k (by omega)
    have HA1 : Hid (∀ i, i ≤ L.length → (polyTerm L i).natAbs ≤ 40000000000000000) := Lib.hid fun i hi => polyTerm_abs h hi
    have HA2 : Hid (∀ k, k ≤ L.length + 1 → (sumTo (polyTerm L) k).natAbs ≤ k * 40000000000000000) := Lib.hid (polyPart_abs h)
    have HZ := Lib.hid (polyTerm_all h)
    have PL := Lib.hid (poly_len L)
    have HTM : Hid (∀ i, (polyL L)[i]?.getD 0 * ((closedN L i : Nat) : Int) = polyTerm L i) := Lib.hid fun i => rfl
    obtain ⟨D, eD⟩ : ∃ D, D = polyL L := ⟨_, rfl⟩
    rw [← eD] at HI HS PL HTM
    clear eD h
    go_wp2_with fail
    refine (HI.out _ v _ r (HT.out.below b1 (by omega))).mono ?_
    rintro e w2 ⟨vd, rfl, rd0, bb2⟩
    have b2 := b1.trans (bb2.mono b1.size)
    have r_2 := r.below bb2
    go_wp2_with fail
    refine (HS.out _ v _ r_2).mono ?_
    rintro e w3 ⟨vs, rfl, rs0, bb3⟩
    have b3 := b2.trans (bb3.mono b2.size)
    have r_3 := r_2.below bb3
    have rd_3 := rd0.below bb3
    go_wp2_with fail
    refine (sameI_yes _ _ vd vs D _ rd_3 rs0 (by have := PL.out; omega)).mono ?_
    rintro e w4 ⟨rfl, d4, rfl⟩
    have b4 := below_drewN b3 d4
    have r_4 := r_3.drewN d4
    have rd_4 := rd_3.drewN d4
    have rs_4 := rs0.drewN d4
    obtain ⟨A2, c2, rfl, s2⟩ := rd_4.seen
    obtain ⟨n, en⟩ : ∃ n, n = L.length := ⟨_, rfl⟩
    have hl := PL.out
    rw [← en] at l1 l6 HA1 HA2 HZ hl
    have HL := Lib.hid hl
    rw [hl]
    obtain ⟨W0, eW0⟩ : ∃ W0, W0 = w3.drewN d4 := ⟨_, rfl⟩
    have BB := Lib.hid b4
    have RR := Lib.hid r_4
    have S2 := Lib.hid s2
    rw [← eW0] at BB RR S2 ⊢
    clear eW0 en s2 hl HS HI PL
    have hn1 : wrap64 ((n : Int) + 1) = ((n + 1 : Nat) : Int) := by unfold wrap64; omega
    obtain ⟨m, em⟩ : ∃ m, m = n + 1 := ⟨_, rfl⟩
    rw [← em] at HA2 HZ HL hn1 ⊢
    have hm7 : m ≤ 7 := by omega
    have HA1m : Hid (∀ i, i < m → (polyTerm L i).natAbs ≤ 40000000000000000) := Lib.hid fun i hi => HA1.out i (by omega)
    clear em hn1 HA1
    go_wp2
    go_loopw [8, 9] (fun s i wr => ∃ k : Nat, k ≤ m ∧ i = .int .i64 k ∧ s = .int .i64 (sumTo (polyTerm L) k) ∧ Below W0.heap.size W0 wr) (fun _ i _ => m - (intOf i).toNat)
    case atStart => exact ⟨0, Nat.zero_le _, rfl, rfl, Below.refl _ _⟩
    case round =>
      obtain ⟨k, hk, rfl, rfl, hbw⟩ := hrel
      have HBW := Lib.hid hbw
      by_cases hlt : k < m
      · have hst : sumTo (polyTerm L) (k + 1) = sumTo (polyTerm L) k + polyTerm L k := rfl
        have ha1 := HA2.out k (by omega)
        have ha2 := HA1m.out k hlt
        have htm := HTM.out k
        have hcs := HCS.out k (by omega)
        have HCk := Lib.hid (HC.out k (by omega))
        obtain ⟨c, ec⟩ : ∃ c, c = closedN L k := ⟨_, rfl⟩
        rw [← ec] at HCk htm hcs
        obtain ⟨s, es⟩ : ∃ s, s = sumTo (polyTerm L) k := ⟨_, rfl⟩
        rw [← es] at hst ha1 ⊢
        obtain ⟨p, ep⟩ : ∃ p, p = polyTerm L k := ⟨_, rfl⟩
        rw [← ep] at hst ha2 htm
        obtain ⟨x, ex⟩ : ∃ x, x = D[k]?.getD 0 := ⟨_, rfl⟩
        rw [← ex] at htm
        have hwp : wrap64 (x * (c : Int)) = p := by rw [htm]; unfold wrap64; omega
        have hws : wrap64 (s + p) = s + p := by unfold wrap64; omega
        have HST := Lib.hid hst
        have HWP := Lib.hid hwp
        have HWS := Lib.hid hws
        have HEX := Lib.hid ex
        clear hbw hst ha1 ha2 htm ec es ep ex hwp hws
        have hi : (0 : Int) ≤ (k : Int) ∧ (k : Int) < (m : Int) := by omega
        go_wp2_with fail
        refine (HCk.out _ _ _ (RR.out.below HBW.out) (HT.out.below (BB.out.trans (HBW.out.mono BB.out.size)) (by omega))).mono ?_
        rintro e wq ⟨rfl, bbq⟩
        have HBQ := Lib.hid (HBW.out.trans (bbq.mono HBW.out.size))
        obtain ⟨g, o, rfl, _, hc⟩ := (S2.out.below HBQ.out) k (by rw [HL.out]; exact hlt)
        rw [← HEX.out] at hc
        clear bbq
        have hwp := HWP.out
        have hws := HWS.out
        go_wp2
        go_roundw
        case rel => exact ⟨k + 1, by omega, by go_num, by rw [HST.out, HWS.out], HBQ.out⟩
        case measure => simp [intOf]; omega
      · have hkm : k = m := by omega
        subst hkm
        rw [HZ.out]
        clear hbw
        go_wp2
        go_ret
        exact ⟨by simp, BB.out.trans (HBW.out.mono BB.out.size)⟩
  · have HI := Lib.hid (fun B v w => implPoly_any B v L w)
    have HS := Lib.hid (fun B v w => specPolyN_any B v L w)
    rw [polySaid_no h] at HI HS
    clear h
    go_wp2_with fail
    refine (HI.out _ v _ r (HT.out.below b1 (by omega))).mono ?_
    rintro e w2 ⟨vd, rfl, rd0, bb2⟩
    have b2 := b1.trans (bb2.mono b1.size)
    have r_2 := r.below bb2
    go_wp2_with fail
    refine (HS.out _ v _ r_2).mono ?_
    rintro e w3 ⟨vs, rfl, rs0, bb3⟩
    have b3 := b2.trans (bb3.mono b2.size)
    have r_3 := r_2.below bb3
    have rd_3 := rd0.below bb3
    go_wp2_with fail
    refine (sameI_yes _ _ vd vs [] _ rd_3 rs0 (by simp)).mono ?_
    rintro e w4 ⟨rfl, d4, rfl⟩
    have b4 := below_drewN b3 d4
    have r_4 := r_3.drewN d4
    have rd_4 := rd_3.drewN d4
    have rs_4 := rs0.drewN d4
    go_wp2_with fail
    refine (sameI_yes _ _ vd vs [] _ rd_4 rs_4 (by simp)).mono ?_
    rintro e w5 ⟨rfl, d5, rfl⟩
    have b5 := below_drewN b4 d5
    have r_5 := r_4.drewN d5
    have rd_5 := rd_4.drewN d5
    have rs_5 := rs_4.drewN d5
    go_wp2
    go_ret
    exact ⟨by simp, below_drewN b3 (d4 + d5)⟩
end Go.Proofs.YtneglpklkmoclaaDoor
