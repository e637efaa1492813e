/- The law FnOrbits returns true and leaves all that was there as it was, whatever list is drawn. -/
import Derived.Test.YtcemhepojjbcgaaDoorBaseF
import Derived.Test.YtcemhepojjbcgaaDoorSameLaw
import Derived.Test.YtcemhepojjbcgaaDoorOrbitsLaw
import Derived.Test.YtcemhepojjbcgaaDoorOrbProm
import Derived.Test.YtcemhepojjbcgaaDoorSameInts
import Derived.Test.YtcemhepojjbcgaaDoorBaseL
namespace Go.Proofs.YtcemhepojjbcgaaDoor
open Go Go.RowKit
set_option linter.unusedVariables false
set_option maxRecDepth 100000

theorem ints_getD (O : List Nat) (i : Nat) : (ints O)[i]?.getD 0 = ((O[i]?.getD 0 : Nat) : Int) := by
  unfold ints
  rw [List.getElem?_map]
  cases O[i]? <;> rfl
theorem orbits_pack {L : List Int} (hL : IsGraph L) : ∃ (U X : Nat → Nat) (D : Nat → Nat → Nat), U 0 = 0 ∧ (∀ i, i < (orbitsL L).length → U (i + 1) = U i ||| X i) ∧ (∀ i, D i 0 = 0) ∧ (∀ i v, D i (v + 1) = D i v + X i / 2 ^ v % 2) ∧ (∀ i v, D i v ≤ v) ∧
    (∀ i, i < (orbitsL L).length → X i < 64 ∧ 1 ≤ D i L.length ∧ D i L.length ∣ (autosL L).length ∧ U i &&& X i = 0) ∧ (∀ i, i ≤ (orbitsL L).length → U i < 64) ∧ U (orbitsL L).length = 2 ^ L.length - 1 ∧ ∀ i, (ints (orbitsL L))[i]?.getD 0 = (X i : Int) := by
  obtain ⟨h1, h2, h3⟩ := orbits_facts hL
  exact ⟨allOf (orbitsL L), fun i => (orbitsL L)[i]?.getD 0, fun i v => cb ((orbitsL L)[i]?.getD 0) v, rfl, fun i hi => allOf_succ _ hi, fun i => rfl, fun i v => rfl, fun i v => cb_le _ v, h1, h2, h3, fun i => ints_getD _ i⟩
theorem rem_zero {k y : Nat} (h : y ∣ k) : Int.tmod (k : Int) (y : Int) = 0 := by
  obtain ⟨c, rfl⟩ := h
  rw [Int.tmod_eq_emod_of_nonneg (by omega), Int.natCast_mul]
  exact Int.mul_emod_right _ _
set_option maxHeartbeats 800000 in
theorem fnOrbits_long (A : Option Addr) (n c : Nat) (w : World) (h : 1048576 < n) (hm : n ≤ maxLen) :
    Calls Tryd.prog 7 #[.slice A n c] w (Fine w) := by
  unfold maxLen at hm
  have hd : decide ((1048576 : Int) < (n : Int)) = true := by simp; omega
  go_enter Tryd.func7, Tryd.ntmps7
  go_wp2
  go_ret
  exact ⟨rfl, Below.refl _ _⟩

set_option maxHeartbeats 4000000 in
theorem fnOrbits_short (A : Option Addr) (n c : Nat) (w : World) (hs : n ≤ 1048576) (hT : Tab w)
    (hD : Calls Tryd.prog 34 #[.slice A n c] w (Drew6 w)) :
    Calls Tryd.prog 7 #[.slice A n c] w (Fine w) := by
  have h2 := hT.lt
  have hd : decide ((1048576 : Int) < (n : Int)) = false := by simp; omega
  have HD := Lib.hid hD
  have HT := Lib.hid hT
  clear hD hT hs
  go_enter Tryd.func7, Tryd.ntmps7
  go_wp2_with fail
  refine HD.out.mono ?_
  rintro e w1 ⟨v, L, rfl, l1, l6, r, b1⟩
  by_cases h : IsGraph L
  · have HC := Lib.hid (fun B v w => implAlikeOrbits_yes B v L h w)
    have HS := Lib.hid (fun B v w => specOrbits_yes B v L h w)
    have HM := Lib.hid (fun B v w => implAlikeSame_yes B v L h w)
    have hol := orbitsL_length h
    obtain ⟨U, X, D, hU0, hUS, hD0, hDS, hDl, hF, hU6, hUn, hX⟩ := orbits_pack h
    have hau := autos_length h
    obtain ⟨P, Q, hP, hQ, hP64, s1, s2, s3, s4, s5⟩ := shl_facts L.length l6
    rw [← hP] at hUn
    have hUQ : U (orbitsL L).length = Q := by rw [hUn]; exact (Nat.eq_sub_of_add_eq hQ).symm
    have hpl : (ints (orbitsL L)).length = (orbitsL L).length := ints_length _
    obtain ⟨k, ek⟩ : ∃ k, k = (autosL L).length := ⟨_, rfl⟩
    rw [← ek] at HM hF hau
    obtain ⟨p, ep⟩ : ∃ p, p = (orbitsL L).length := ⟨_, rfl⟩
    rw [← ep] at hUS hF hU6 hUQ hpl
    obtain ⟨O, eO⟩ : ∃ O, O = ints (orbitsL L) := ⟨_, rfl⟩
    rw [← eO] at HC HS hol hX hpl
    have HU0 := Lib.hid hU0
    have HUS := Lib.hid hUS
    have HD0 := Lib.hid hD0
    have HDS := Lib.hid hDS
    have HDL := Lib.hid hDl
    have HF := Lib.hid hF
    have HU6 := Lib.hid hU6
    have HUQ := Lib.hid hUQ
    have HX := Lib.hid hX
    have HOL := Lib.hid hol
    have HPL := Lib.hid hpl
    clear h ek ep eO hU0 hUS hD0 hDS hDl hF hU6 hUQ hX hol hpl hUn hP
    go_wp2_with fail
    refine (HC.out _ v _ r (HT.out.below b1 (by omega))).mono ?_
    rintro e w2 ⟨vo, rfl, ro0, bb2⟩
    have b2 := b1.trans (bb2.mono b1.size)
    have r_2 := r.below bb2
    go_wp2_with fail
    refine (HS.out _ v _ r_2).mono ?_
    rintro e w3 ⟨vt, rfl, rt0, bb3⟩
    have b3 := b2.trans (bb3.mono b2.size)
    have r_3 := r_2.below bb3
    have ro_3 := ro0.below bb3
    go_wp2_with fail
    refine (sameI_yes _ _ vo vt O _ ro_3 rt0 (by have := HOL.out; omega)).mono ?_
    rintro e w4 ⟨rfl, d4, rfl⟩
    have b4 := below_drewN b3 d4
    have r_4 := r_3.drewN d4
    have ro_4 := ro_3.drewN d4
    have rt_4 := rt0.drewN d4
    go_wp2_with fail
    refine (HM.out _ v _ r_4 (HT.out.below b4 (by omega))).mono ?_
    rintro e w5 ⟨rfl, bb5⟩
    have b5 := b4.trans (bb5.mono b4.size)
    have r_5 := r_4.below bb5
    have ro_5 := ro_4.below bb5
    have rt_5 := rt_4.below bb5
    obtain ⟨A1, c1, rfl, _⟩ := r_5.seen
    obtain ⟨A2, c2, rfl, t2⟩ := ro_5.seen
    obtain ⟨m, em⟩ : ∃ m, m = L.length := ⟨_, rfl⟩
    rw [← em] at HF l1 l6 s1 s2 ⊢
    rw [HPL.out]
    have T2 := Lib.hid t2
    have BB := Lib.hid b5
    have hp100 : p ≤ 1000 := by have := HPL.out; have := HOL.out; omega
    obtain ⟨W0, eW0⟩ : ∃ W0, W0 = w5 := ⟨_, rfl⟩
    rw [← eW0] at T2 BB ⊢
    clear eW0 em t2 HC HS HM HT HD
    go_wp2
    go_loopw [10, 11] (fun o i wr => ∃ a d : Nat, a ≤ p ∧ i = .int .i64 a ∧ o = .int .i64 (U a : Nat) ∧ wr = W0.drewN d) (fun _ i _ => p - (intOf i).toNat)
    case atStart => exact ⟨0, 0, Nat.zero_le _, rfl, by rw [HU0.out]; rfl, rfl⟩
    case round =>
      obtain ⟨a, d, ha, rfl, rfl, ew⟩ := hrel
      have EW := Lib.hid ew
      clear ew
      by_cases hlt : a < p
      · obtain ⟨hX6, hD1, hDk, hUX⟩ := HF.out a hlt
        have hU6 := HU6.out a ha
        obtain ⟨g, o, rfl, _, q1⟩ := T2.out a (by rw [HPL.out]; exact hlt)
        rw [HX.out] at q1
        have hor := i64_or_nat (U a) (X a) (by omega) (by omega)
        rw [← HUS.out a hlt] at hor
        have hand := i64_and_nat (U a) (X a) (by omega) (by omega)
        rw [hUX] at hand
        have hst := HDS.out a
        have hsl := HDL.out a
        have hd0 := HD0.out a
        have hrem := rem_zero hDk
        obtain ⟨xa, exa⟩ : ∃ x, x = X a := ⟨_, rfl⟩
        obtain ⟨ua, eua⟩ : ∃ x, x = U a := ⟨_, rfl⟩
        obtain ⟨ub, eub⟩ : ∃ x, x = U (a + 1) := ⟨_, rfl⟩
        obtain ⟨E, eE⟩ : ∃ E, E = D a := ⟨_, rfl⟩
        rw [← exa] at q1 hor hand hX6 hst
        rw [← eua] at hor hand ⊢
        rw [← eub] at hor
        rw [← eE] at hst hsl hd0 hrem hD1
        have HST := Lib.hid hst
        have HSL := Lib.hid hsl
        have HE0 := Lib.hid hd0
        have HREM := Lib.hid hrem
        have HOR := Lib.hid hor
        have HAND := Lib.hid hand
        have EUB := Lib.hid eub
        have Q1 := Lib.hid q1
        have HE1 := Lib.hid hD1
        clear hst hsl hd0 hrem hor hand eub q1 hD1 hDk hUX exa eua eE hU6
        go_wp2
        go_loopw [12, 13] (fun nn v wr => ∃ b d : Nat, b ≤ m ∧ v = .int .i64 b ∧ nn = .int .i64 (E b : Nat) ∧ wr = W0.drewN d) (fun _ v _ => m - (intOf v).toNat)
        case atStart => exact ⟨0, d, Nat.zero_le _, rfl, by rw [HE0.out]; rfl, EW.out⟩
        case round =>
          obtain ⟨b, d2, hb, rfl, rfl, ew2⟩ := hrel
          have k1 : wr.cell? ⟨g, o + a, none⟩ = some (.int .i64 xa) := by rw [ew2]; exact Q1.out
          have EWB := Lib.hid ew2
          clear ew2
          have hi : (0 : Int) ≤ (a : Int) ∧ (a : Int) < (p : Int) := by omega
          by_cases hlb : b < m
          · obtain ⟨x, ex, lx, fx⟩ := and_facts xa b (by omega)
            have hs2 := HST.out b
            rw [← ex] at hs2
            have hl1 := HSL.out b
            obtain ⟨y, ey⟩ : ∃ y, y = E b := ⟨_, rfl⟩
            obtain ⟨z, ez⟩ : ∃ z, z = E (b + 1) := ⟨_, rfl⟩
            rw [← ey] at hs2 hl1 ⊢
            rw [← ez] at hs2
            have hsum : (y : Int) + (x : Int) = (z : Int) := by omega
            have hz6 : z ≤ 10 := by omega
            have hb64 : b < 64 := by omega
            have EZ := Lib.hid ez
            clear ex hs2 hl1 ey ez
            go_wp2
            go_roundw
            case rel => exact ⟨b + 1, d2, by omega, by go_num, by rw [← EZ.out], EWB.out⟩
            case measure => simp [intOf]; omega
          · have hbm : b = m := by omega
            subst hbm
            have hl1 := HSL.out b
            have hy1 := HE1.out
            have hrem := HREM.out
            have hand := HAND.out
            obtain ⟨y, ey⟩ : ∃ y, y = E b := ⟨_, rfl⟩
            rw [← ey] at hl1 hy1 hrem ⊢
            have e0 : ((y : Int) == 0) = false := by simp; omega
            have hor := HOR.out
            clear ey
            go_wp2
            go_roundw
            case rel => exact ⟨a + 1, d2, by omega, by go_num, by rw [EUB.out], EWB.out⟩
            case measure => simp [intOf] <;> omega
      · have hap : a = p := by omega
        subst hap
        have hq := HUQ.out
        rw [hq]
        have bb : Below w.heap.size w wr := by rw [EW.out]; exact below_drewN BB.out d
        clear hq
        go_wp2
        go_ret
        exact ⟨by simp, bb⟩
  · have HC := Lib.hid (fun B v w => implAlikeOrbits_no B v L h w)
    have HS := Lib.hid (fun B v w => specOrbits_no B v L h w)
    clear h
    go_wp2_with fail
    refine (HC.out _ v _ r (HT.out.below b1 (by omega))).mono ?_
    rintro e w2 ⟨vd, rfl, rd0, bb2⟩
    have b2 := b1.trans (bb2.mono b1.size)
    have r_2 := r.below bb2
    go_wp2_with fail
    refine (HS.out _ v _ r_2).mono ?_
    rintro e w3 ⟨vs, rfl, rs0, bb3⟩
    have b3 := b2.trans (bb3.mono b2.size)
    have r_3 := r_2.below bb3
    have rd_3 := rd0.below bb3
    go_wp2_with fail
    refine (sameI_yes _ _ vd vs [] _ rd_3 rs0 (by simp)).mono ?_
    rintro e w4 ⟨rfl, d4, rfl⟩
    have b4 := below_drewN b3 d4
    have r_4 := r_3.drewN d4
    have rd_4 := rd_3.drewN d4
    have rs_4 := rs0.drewN d4
    go_wp2_with fail
    refine (sameI_yes _ _ vd vs [] _ rd_4 rs_4 (by simp)).mono ?_
    rintro e w5 ⟨rfl, d5, rfl⟩
    have b5 := below_drewN b4 d5
    have r_5 := r_4.drewN d5
    have rd_5 := rd_4.drewN d5
    have rs_5 := rs_4.drewN d5
    go_wp2
    go_ret
    exact ⟨by simp, by simpa using b5⟩
end Go.Proofs.YtcemhepojjbcgaaDoor
