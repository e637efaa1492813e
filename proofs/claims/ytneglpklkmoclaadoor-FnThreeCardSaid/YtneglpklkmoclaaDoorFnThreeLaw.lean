/- The law FnThree returns true and leaves all that was there as it was, whatever is drawn. -/
import Derived.Test.YtneglpklkmoclaaDoorBaseF
import Derived.Test.YtneglpklkmoclaaDoorBaseW
import Derived.Test.YtneglpklkmoclaaDoorImplOther
import Derived.Test.YtneglpklkmoclaaDoorImplDegrees
import Derived.Test.YtneglpklkmoclaaDoorNumProm
namespace Go.Proofs.YtneglpklkmoclaaDoor
open Go Go.RowKit
set_option linter.unusedVariables false
set_option maxRecDepth 100000

set_option maxHeartbeats 800000 in
theorem fnThree_long (A : Option Addr) (n c : Nat) (w : World) (h : 1048576 < n) (hm : n ≤ maxLen) :
    Calls Tryd.prog 9 #[.slice A n c] w (Fine w) := by
  unfold maxLen at hm
  have hd : decide ((1048576 : Int) < (n : Int)) = true := by simp; omega
  go_enter Tryd.func9, Tryd.ntmps9
  go_wp2
  go_ret
  exact ⟨rfl, Below.refl _ _⟩

set_option maxHeartbeats 4000000 in
theorem fnThree_short (A : Option Addr) (n c : Nat) (w : World) (hs : n ≤ 1048576) (hT : Tab w)
    (hD : Calls Tryd.prog 28 #[.slice A n c] w (Drew6 w)) :
    Calls Tryd.prog 9 #[.slice A n c] w (Fine w) := by
  have h2 := hT.lt
  have hd : decide ((1048576 : Int) < (n : Int)) = false := by simp; omega
  have HD := Lib.hid hD
  have HT := Lib.hid hT
  clear hD hT hs
  go_enter Tryd.func9, Tryd.ntmps9
  go_wp2_with fail
  refine HD.out.mono ?_
  rintro e w1 ⟨v, L, rfl, l1, l6, r, b1⟩
  by_cases h : IsGraph L
  · have HI := Lib.hid (fun B v w => implThree_any B v L w)
    have HS := Lib.hid (fun B v w => specThree_any B v L w)
    rw [oneSaid_yes h] at HI HS
    have HO := Lib.hid (fun B v w => implGraphOther_yes B v L h w)
    have HI2 := Lib.hid (fun B v w => implThree_any B v (otherL L L.length) w)
    rw [oneSaid_yes (other_graph h)] at HI2
    have HD := Lib.hid (fun B v w => implGraphDegrees_yes B v L h w)
    have hb3 := three_both h
    have hdl : (degL L L.length).length = L.length := degL_length _ _
    have HDG : Hid (∀ i, i < L.length → (degL L L.length)[i]?.getD 0 = ((dg L i : Nat) : Int) ∧ dg L i ≤ L.length - 1) := Lib.hid fun i hi => ⟨degL_dg h hi, dg_lt h hi⟩
    have HSM : Hid (∀ k, k ≤ L.length → sumN (fun v => dg L v * (L.length - 1 - dg L v)) k ≤ 150) := Lib.hid fun k hk => sq_part h _ (fun v hv => by
      have q1 := dg_lt h hv
      have q2 := Nat.mul_le_mul (show dg L v ≤ 5 by omega) (show L.length - 1 - dg L v ≤ 5 by omega)
      omega) hk
    have HB3 := Lib.hid hb3
    have HDL := Lib.hid hdl
    obtain ⟨x, ex⟩ : ∃ x, x = threeN L := ⟨_, rfl⟩
    rw [← ex] at HI HS HB3
    obtain ⟨y, ey⟩ : ∃ y, y = threeN (otherL L L.length) := ⟨_, rfl⟩
    rw [← ey] at HI2 HB3
    obtain ⟨M, eM⟩ : ∃ M, M = otherL L L.length := ⟨_, rfl⟩
    rw [← eM] at HO HI2
    obtain ⟨D, eD⟩ : ∃ D, D = degL L L.length := ⟨_, rfl⟩
    rw [← eD] at HD HDG HDL
    clear ex ey eM eD hb3 hdl h
    go_wp2_with fail
    refine (HI.out _ v _ r (HT.out.below b1 (by omega))).mono ?_
    rintro e w2 ⟨rfl, bb2⟩
    have b2 := b1.trans (bb2.mono b1.size)
    have r_2 := r.below bb2
    go_wp2_with fail
    refine (HS.out _ v _ r_2).mono ?_
    rintro e w3 ⟨rfl, bb3⟩
    have b3 := b2.trans (bb3.mono b2.size)
    have r_3 := r_2.below bb3
    obtain ⟨A1, c1, rfl, _⟩ := r_3.seen
    go_wp2_with fail
    refine (HO.out _ _ _ r_3 (HT.out.below b3 (by omega))).mono ?_
    rintro e w4 ⟨vo, rfl, ro0, bb4⟩
    have b4 := b3.trans (bb4.mono b3.size)
    have r_4 := r_3.below bb4
    go_wp2_with fail
    refine (HI2.out _ vo _ ro0 (HT.out.below b4 (by omega))).mono ?_
    rintro e w5 ⟨rfl, bb5⟩
    have b5 := b4.trans (bb5.mono b4.size)
    have r_5 := r_4.below bb5
    have ro_5 := ro0.below bb5
    go_wp2_with fail
    refine (HD.out _ _ _ r_5 (HT.out.below b5 (by omega))).mono ?_
    rintro e w6 ⟨vd, rfl, rd0, bb6⟩
    have b6 := b5.trans (bb6.mono b5.size)
    have r_6 := r_5.below bb6
    have ro_6 := ro_5.below bb6
    obtain ⟨A2, c2, rfl, s2⟩ := rd0.seen
    obtain ⟨n, en⟩ : ∃ n, n = L.length := ⟨_, rfl⟩
    have hl := HDL.out
    rw [← en] at l1 l6 HSM HB3 HDG hl ⊢
    have HL := Lib.hid hl
    rw [hl]
    obtain ⟨W0, eW0⟩ : ∃ W0, W0 = w6 := ⟨_, rfl⟩
    have BB := Lib.hid b6
    have S2 := Lib.hid s2
    rw [← eW0] at BB S2 ⊢
    clear eW0 en s2 hl HS HI HI2 HO HD HDL
    obtain ⟨f, ef⟩ : ∃ f : Nat → Nat, f = fun v => dg L v * (n - 1 - dg L v) := ⟨_, rfl⟩
    rw [← ef] at HSM HB3
    have HF : Hid (∀ k, f k = dg L k * (n - 1 - dg L k)) := Lib.hid fun k => by rw [ef]
    clear ef
    go_wp2
    go_loopw [15, 16] (fun s i wr => ∃ k d : Nat, k ≤ n ∧ i = .int .i64 k ∧ s = .int .i64 (sumN f k : Nat) ∧ wr = W0.drewN d) (fun _ i _ => n - (intOf i).toNat)
    case atStart => exact ⟨0, 0, Nat.zero_le _, rfl, rfl, rfl⟩
    case round =>
      obtain ⟨k, d, hk, rfl, rfl, ew⟩ := hrel
      have EW := Lib.hid ew
      have hsm := HSM.out k hk
      by_cases hlt : k < n
      · have hst : sumN f (k + 1) = sumN f k + f k := rfl
        obtain ⟨q1, q2⟩ := HDG.out k hlt
        have q3 := HF.out k
        have q4 := HSM.out (k + 1) (by omega)
        obtain ⟨g, o, rfl, _, hc⟩ := S2.out k (by rw [HL.out]; exact hlt)
        rw [q1] at hc
        have hcw : wr.cell? ⟨g, o + k, none⟩ = some (.int .i64 (dg L k : Nat)) := by rw [ew]; exact hc
        obtain ⟨x1, ex1⟩ : ∃ x1, x1 = dg L k := ⟨_, rfl⟩
        rw [← ex1] at hcw q2 q3
        obtain ⟨s, es⟩ : ∃ s, s = sumN f k := ⟨_, rfl⟩
        rw [← es] at hst hsm ⊢
        obtain ⟨p, ep⟩ : ∃ p, p = f k := ⟨_, rfl⟩
        rw [← ep] at hst q3
        obtain ⟨y1, ey1⟩ : ∃ y1, y1 = n - 1 - x1 := ⟨_, rfl⟩
        rw [← ey1] at q3
        have hy : (n : Int) - 1 - (x1 : Int) = (y1 : Int) := by omega
        have hp : (x1 : Int) * (y1 : Int) = (p : Int) := by rw [q3, Int.natCast_mul]
        have hp2 : p ≤ 150 := by omega
        have hy5 : y1 ≤ 6 := by omega
        have HST := Lib.hid hst
        have hi : (0 : Int) ≤ (k : Int) ∧ (k : Int) < (n : Int) := by omega
        clear ew hc q1 q2 q3 q4 ex1 es ep ey1 hst
        go_wp2
        go_quiet (fail)
        go_wp2
        go_roundw
        case rel => exact ⟨k + 1, _, by omega, by go_num, by rw [HST.out, Int.natCast_add], by rw [EW.out, World.drewN_drewN]⟩
        case measure => simp [intOf]; omega
      · have hkm : k = n := by omega
        subst hkm
        have hb3 := HB3.out
        obtain ⟨s, es⟩ : ∃ s, s = sumN f k := ⟨_, rfl⟩
        rw [← es] at hsm hb3 ⊢
        clear ew es
        have hk6 : k = 1 ∨ k = 2 ∨ k = 3 ∨ k = 4 ∨ k = 5 ∨ k = 6 := by omega
        rcases hk6 with rfl | rfl | rfl | rfl | rfl | rfl
        · have hxy : (x : Int) + (y : Int) = 0 - (s : Int) / 2 := by simp at hb3; omega
          have hxb : x ≤ 150 ∧ y ≤ 150 := by simp at hb3; omega
          have hs2 : ((s : Nat) : Int).tdiv 2 = (s : Int) / 2 := by rw [Int.tdiv_eq_ediv_of_nonneg (by omega)]
          clear hb3
          go_wp2
          go_ret
          exact ⟨by simp, by rw [EW.out]; exact below_drewN BB.out d⟩
        · have hxy : (x : Int) + (y : Int) = 0 - (s : Int) / 2 := by simp at hb3; omega
          have hxb : x ≤ 150 ∧ y ≤ 150 := by simp at hb3; omega
          have hs2 : ((s : Nat) : Int).tdiv 2 = (s : Int) / 2 := by rw [Int.tdiv_eq_ediv_of_nonneg (by omega)]
          clear hb3
          go_wp2
          go_ret
          exact ⟨by simp, by rw [EW.out]; exact below_drewN BB.out d⟩
        · have hxy : (x : Int) + (y : Int) = 1 - (s : Int) / 2 := by simp at hb3; omega
          have hxb : x ≤ 150 ∧ y ≤ 150 := by simp at hb3; omega
          have hs2 : ((s : Nat) : Int).tdiv 2 = (s : Int) / 2 := by rw [Int.tdiv_eq_ediv_of_nonneg (by omega)]
          clear hb3
          go_wp2
          go_ret
          exact ⟨by simp, by rw [EW.out]; exact below_drewN BB.out d⟩
        · have hxy : (x : Int) + (y : Int) = 4 - (s : Int) / 2 := by simp at hb3; omega
          have hxb : x ≤ 150 ∧ y ≤ 150 := by simp at hb3; omega
          have hs2 : ((s : Nat) : Int).tdiv 2 = (s : Int) / 2 := by rw [Int.tdiv_eq_ediv_of_nonneg (by omega)]
          clear hb3
          go_wp2
          go_ret
          exact ⟨by simp, by rw [EW.out]; exact below_drewN BB.out d⟩
        · have hxy : (x : Int) + (y : Int) = 10 - (s : Int) / 2 := by simp at hb3; omega
          have hxb : x ≤ 150 ∧ y ≤ 150 := by simp at hb3; omega
          have hs2 : ((s : Nat) : Int).tdiv 2 = (s : Int) / 2 := by rw [Int.tdiv_eq_ediv_of_nonneg (by omega)]
          clear hb3
          go_wp2
          go_ret
          exact ⟨by simp, by rw [EW.out]; exact below_drewN BB.out d⟩
        · have hxy : (x : Int) + (y : Int) = 20 - (s : Int) / 2 := by simp at hb3; omega
          have hxb : x ≤ 150 ∧ y ≤ 150 := by simp at hb3; omega
          have hs2 : ((s : Nat) : Int).tdiv 2 = (s : Int) / 2 := by rw [Int.tdiv_eq_ediv_of_nonneg (by omega)]
          clear hb3
          go_wp2
          go_ret
          exact ⟨by simp, by rw [EW.out]; exact below_drewN BB.out d⟩
  · have HI := Lib.hid (fun B v w => implThree_any B v L w)
    have HS := Lib.hid (fun B v w => specThree_any B v L w)
    rw [oneSaid_no h] at HI HS
    clear h
    go_wp2_with fail
    refine (HI.out _ v _ r (HT.out.below b1 (by omega))).mono ?_
    rintro e w2 ⟨rfl, bb2⟩
    have b2 := b1.trans (bb2.mono b1.size)
    have r_2 := r.below bb2
    go_wp2_with fail
    refine (HS.out _ v _ r_2).mono ?_
    rintro e w3 ⟨rfl, bb3⟩
    have b3 := b2.trans (bb3.mono b2.size)
    have r_3 := r_2.below bb3
    go_wp2
    go_ret
    exact ⟨by simp, b3⟩
end Go.Proofs.YtneglpklkmoclaaDoor
