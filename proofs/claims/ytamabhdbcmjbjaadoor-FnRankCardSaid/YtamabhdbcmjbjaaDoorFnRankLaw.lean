/- The law FnRank returns true and leaves all that was there as it was, whatever is drawn. -/
import Derived.Test.YtamabhdbcmjbjaaDoorDrawEdges
import Derived.Test.YtamabhdbcmjbjaaDoorRankAll
import Derived.Test.YtamabhdbcmjbjaaDoorCodeLaw
import Derived.Test.YtamabhdbcmjbjaaDoorRankProm2
import Derived.Test.YtamabhdbcmjbjaaDoorBaseG
namespace Go.Proofs.YtamabhdbcmjbjaaDoor
open Go Go.RowKit
set_option linter.unusedVariables false
set_option maxRecDepth 100000

theorem hasE_of {s b : Nat} (h : s &&& b = s) : hasE (s : Int) b = true := by
  unfold hasE
  rw [Int.toNat_natCast, decide_eq_true h, decide_eq_true (by omega)]
  rfl
theorem code_ten {L : List Int} (ht : IsT L) : codeOf L < 1024 := Nat.lt_of_lt_of_le (code_lt L) (by
  have h5 := ht.2
  have h := rows_count ⟨L.length, by omega⟩
  have : ∀ n : Fin 6, 2 ^ (rows n.val).length ≤ 1024 := by decide
  exact this ⟨L.length, by omega⟩)
theorem rk_small (s : Nat) : rkT s ≤ 7 := by unfold rkT; omega
set_option maxHeartbeats 800000 in
theorem fnRank_long (A : Option Addr) (n c : Nat) (w : World) (h : 1048576 < n) (hm : n ≤ maxLen) :
    Calls Tryd.prog 4 #[.slice A n c] w (Fine w) := by
  unfold maxLen at hm
  have hd : decide ((1048576 : Int) < (n : Int)) = true := by simp; omega
  go_enter Tryd.func4, Tryd.ntmps4
  go_wp2
  go_ret
  exact ⟨rfl, Below.refl _ _⟩

set_option maxHeartbeats 4000000 in
theorem fnRank_short (A : Option Addr) (n c : Nat) (w : World) (hs : n ≤ 1048576) (hT : Tab w)
    (hD : Calls Tryd.prog 12 #[.slice A n c] w (DrewE w)) :
    Calls Tryd.prog 4 #[.slice A n c] w (Fine w) := by
  have h2 := hT.lt
  have hd : decide ((1048576 : Int) < (n : Int)) = false := by simp; omega
  have HD := Lib.hid hD
  have HT := Lib.hid hT
  clear hD hT hs
  go_enter Tryd.func4, Tryd.ntmps4
  go_wp2_with fail
  refine HD.out.mono ?_
  rintro e w1 ⟨v, L, z, rfl, l1, l5, z1, z2, r, b1⟩
  by_cases h : IsT L ∧ hasE z (codeOf L) = true
  · obtain ⟨ht, hE⟩ := h
    obtain ⟨s, rfl, hsub, hsle⟩ := hasE_nat hE
    have hc := code_ten ht
    have hs10 : s < 1024 := by omega
    have HI := Lib.hid (fun B v w => implRank_yes B v L ht s hE w)
    have HS := Lib.hid (fun B v w => specRankF_yes B v L ht s hE w)
    have HC := Lib.hid (fun B v w => implGraphCode_yes B v L ht.1 w)
    have HA := Lib.hid (fun B v w => implRank_yes B v L ht (codeOf L) (hasE_of (Nat.and_self _)) w)
    have HX : Hid (∀ e, codeOf L / 2 ^ e % 2 = 1 → ∀ B v w, Row w B v L → Tab w → Calls Tryd.prog 13 #[v, .int .i64 (s ||| 2 ^ e : Nat)] w (NumOkA w (rkT (s ||| 2 ^ e)) true)) := Lib.hid fun e he B v w a t => implRank_yes B v L ht (s ||| 2 ^ e) (hasE_of (or_sub hsub he)) w a t
    have HM : Hid (∀ e, e < 10 → rkT s ≤ rkT (s ||| 2 ^ e) ∧ rkT (s ||| 2 ^ e) ≤ rkT s + 1) := Lib.hid fun e he => rank_more hs10 he
    have q1 := rank_members hs10
    have q2 := rank_mono hc hsub
    have q3 := rank_nodes ht.1.1 l5 (Nat.lt_of_le_of_lt hsle (code_ltN ht))
    have k1 := rk_small s
    have k2 := rk_small (codeOf L)
    obtain ⟨c0, ec0⟩ : ∃ c0, c0 = codeOf L := ⟨_, rfl⟩
    rw [← ec0] at HC HA HX q2 k2 hc hsle hsub
    obtain ⟨x, ex⟩ : ∃ x, x = rkT s := ⟨_, rfl⟩
    rw [← ex] at HI HS HM q1 q2 q3 k1
    obtain ⟨y, ey⟩ : ∃ y, y = rkT c0 := ⟨_, rfl⟩
    rw [← ey] at HA q2 k2
    have Q1 := Lib.hid q1
    have HSL := Lib.hid hsle
    clear q1 ht hE hsub hsle ec0 ex ey
    go_wp2_with fail
    refine (HI.out _ v _ r (HT.out.below b1 (by omega))).mono ?_
    rintro e w2 ⟨rfl, bb2⟩
    have b2 := b1.trans (bb2.mono b1.size)
    have r_2 := r.below bb2
    go_wp2_with fail
    refine (HS.out _ v _ r_2).mono ?_
    rintro e w3 ⟨rfl, bb3⟩
    have b3 := b2.trans (bb3.mono b2.size)
    have r_3 := r_2.below bb3
    go_wp2_with fail
    refine (HC.out _ v _ r_3 (HT.out.below b3 (by omega))).mono ?_
    rintro e w4 ⟨rfl, bb4⟩
    have b4 := b3.trans (bb4.mono b3.size)
    have r_4 := r_3.below bb4
    go_wp2_with fail
    refine (HA.out _ v _ r_4 (HT.out.below b4 (by omega))).mono ?_
    rintro e w5 ⟨rfl, bb5⟩
    have b5 := b4.trans (bb5.mono b4.size)
    have r_5 := r_4.below bb5
    obtain ⟨A1, c1, rfl, _⟩ := r_5.seen
    obtain ⟨n, en⟩ : ∃ n, n = L.length := ⟨_, rfl⟩
    obtain ⟨W0, eW0⟩ : ∃ W0, W0 = w5 := ⟨_, rfl⟩
    have BB := Lib.hid b5
    have RR := Lib.hid r_5
    rw [← eW0] at BB RR ⊢
    rw [← en] at l1 l5 q3 RR ⊢
    clear eW0 en HI HS HC HA
    go_wp2
    go_loopw [13, 14] (fun m i wr => ∃ k : Nat, k ≤ 15 ∧ i = .int .i64 k ∧ m = .int .i64 (pcf k s : Nat) ∧ Hid (Below W0.heap.size W0 wr)) (fun _ i _ => 15 - (intOf i).toNat)
    case atStart => exact ⟨0, Nat.zero_le _, rfl, rfl, Lib.hid (Below.refl _ _)⟩
    case round =>
      obtain ⟨k, hk, rfl, rfl, hb⟩ := hrel
      have hpk := pcf_le k s
      by_cases hlt : k < 15
      · have hki : (k : Int) < 15 := by omega
        have hst := pcf_step k s
        have hsb : s < 1048576 := by omega
        have hcb : c0 < 1048576 := by omega
        obtain ⟨p, ep⟩ : ∃ p, p = pcf k s := ⟨_, rfl⟩
        rw [← ep] at hst hpk ⊢
        obtain ⟨bs, ebs, hbs, fs⟩ := and_facts s k hsb
        obtain ⟨bc, ebc, hbc, fc⟩ := and_facts c0 k hcb
        rw [← ebs] at hst
        have HST := Lib.hid hst
        have FS := Lib.hid fs
        have FC := Lib.hid fc
        clear fs fc hst ep
        have h1 : bs = 0 ∨ bs = 1 := by omega
        have h2 : bc = 0 ∨ bc = 1 := by omega
        rcases h2 with rfl | rfl
        · rcases h1 with rfl | rfl
          · have fs := FS.out
            have fc := FC.out
            clear FS FC ebs ebc
            go_wp2
            go_roundw
            case rel => exact ⟨k + 1, by omega, by go_num, by rw [HST.out]; simp, hb⟩
            case measure => simp [intOf]; omega
          · have fs := FS.out
            have fc := FC.out
            clear FS FC ebs ebc
            go_wp2
            go_roundw
            case rel => exact ⟨k + 1, by omega, by go_num, by rw [HST.out]; simp, hb⟩
            case measure => simp [intOf]; omega
        · rcases h1 with rfl | rfl
          · have hk10 : k < 10 := by
              refine Classical.byContradiction fun hge => ?_
              rw [Nat.div_eq_of_lt (Nat.lt_of_lt_of_le hc (show 1024 ≤ 2 ^ k from (Nat.pow_le_pow_right (n := 2) (by decide) (show 10 ≤ k by omega) : 2 ^ 10 ≤ 2 ^ k)))] at ebc
              omega
            obtain ⟨m1, m2⟩ := HM.out k hk10
            have HXk := Lib.hid (HX.out k ebc.symm)
            have hpw : wrap64 ((2 : Int) ^ k) = ((2 ^ k : Nat) : Int) := wrap_pow k (by omega)
            have hPl : 2 ^ k ≤ 1024 := (Nat.pow_le_pow_right (n := 2) (by decide) (show k ≤ 10 by omega) : 2 ^ k ≤ 2 ^ 10)
            obtain ⟨P, eP⟩ : ∃ P, P = 2 ^ k := ⟨_, rfl⟩
            rw [← eP] at HXk hpw m1 m2 hPl
            have hor : bits .or .i64 (s : Int) (P : Int) = ((s ||| P : Nat) : Int) := i64_or_nat s P (Nat.lt_trans hs10 (by decide)) (Nat.lt_of_le_of_lt hPl (by decide))
            obtain ⟨t, et⟩ : ∃ t, t = s ||| P := ⟨_, rfl⟩
            rw [← et] at HXk hor m1 m2
            obtain ⟨x2, ex2⟩ : ∃ x2, x2 = rkT t := ⟨_, rfl⟩
            rw [← ex2] at HXk m1 m2
            have n1 : ¬ x2 < x := by omega
            have n2 : ¬ x + 1 < x2 := by omega
            have hx2 : x2 ≤ 9 := by omega
            have HPW := Lib.hid hpw
            have HOR := Lib.hid hor
            have fs := FS.out
            have fc := FC.out
            clear FS FC ebs ebc hpw hor hPl eP et ex2 m1 m2
            have hpw := HPW.out
            have hor := HOR.out
            go_wp2_with fail
            refine (HXk.out _ _ _ (RR.out.below hb.out) (HT.out.below (BB.out.trans (hb.out.mono BB.out.size)) (by omega))).mono ?_
            rintro e wq ⟨rfl, bbq⟩
            have HBQ := Lib.hid (hb.out.trans (bbq.mono hb.out.size))
            clear bbq
            go_wp2
            go_roundw
            case rel => exact ⟨k + 1, by omega, by go_num, by rw [HST.out]; simp, HBQ⟩
            case measure => simp [intOf]; omega
          · have fs := FS.out
            have fc := FC.out
            clear FS FC ebs ebc
            go_wp2
            go_roundw
            case rel => exact ⟨k + 1, by omega, by go_num, by rw [HST.out]; simp, hb⟩
            case measure => simp [intOf]; omega
      · have hkn : k = 15 := by omega
        subst hkn
        have q1 := Q1.out
        obtain ⟨p, ep⟩ : ∃ p, p = pcf 15 s := ⟨_, rfl⟩
        rw [← ep] at q1 hpk ⊢
        clear ep
        have hxn : ¬ n ≤ x := by omega
        go_wp2
        all_goals first
          | (exfalso; omega)
          | (go_ret
             exact ⟨by first | (simp; done) | (simp; omega), BB.out.trans (hb.out.mono BB.out.size)⟩)
  · have HI : Hid (∀ B v w, Row w B v L → Tab w → Calls Tryd.prog 13 #[v, .int .i64 z] w (NumsZ1 w 0 false)) := Lib.hid fun B v w a t => by
      by_cases ht : IsT L
      · exact implRank_set B v L ht z (by omega) (by omega) (by cases e : hasE z (codeOf L) with | false => rfl | true => exact absurd ⟨ht, e⟩ h) w a t
      · exact implRank_no B v L ht z w a t
    have HS : Hid (∀ B v w, Row w B v L → Calls Tryd.prog 14 #[v, .int .i64 z] w (NumsZ1 w 0 false)) := Lib.hid fun B v w a => by
      by_cases ht : IsT L
      · exact specRankF_set B v L ht z (by omega) (by omega) (by cases e : hasE z (codeOf L) with | false => rfl | true => exact absurd ⟨ht, e⟩ h) w a
      · exact specRankF_no B v L ht z w a
    clear h
    go_wp2_with fail
    refine (HI.out _ v _ r (HT.out.below b1 (by omega))).mono ?_
    rintro e w2 ⟨rfl, bb2⟩
    have b2 := b1.trans (bb2.mono b1.size)
    have r_2 := r.below bb2
    go_wp2_with fail
    refine (HS.out _ v _ r_2).mono ?_
    rintro e w3 ⟨rfl, bb3⟩
    have b3 := b2.trans (bb3.mono b2.size)
    have r_3 := r_2.below bb3
    go_wp2
    go_ret
    exact ⟨by simp, b3⟩
end Go.Proofs.YtamabhdbcmjbjaaDoor
