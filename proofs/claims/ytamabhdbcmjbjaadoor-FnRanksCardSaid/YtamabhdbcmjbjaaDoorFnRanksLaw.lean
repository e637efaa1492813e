/- The law FnRanks returns true and leaves all that was there as it was, whatever is drawn. -/
import Derived.Test.YtamabhdbcmjbjaaDoorDrawEdges
import Derived.Test.YtamabhdbcmjbjaaDoorRankAll
import Derived.Test.YtamabhdbcmjbjaaDoorCodeLaw
import Derived.Test.YtamabhdbcmjbjaaDoorRankProm
import Derived.Test.YtamabhdbcmjbjaaDoorBaseG
namespace Go.Proofs.YtamabhdbcmjbjaaDoor
open Go Go.RowKit
set_option linter.unusedVariables false
set_option maxRecDepth 100000

theorem hasE_of {s b : Nat} (h : s &&& b = s) : hasE (s : Int) b = true := by
  unfold hasE
  rw [Int.toNat_natCast, decide_eq_true h, decide_eq_true (by omega)]
  rfl
theorem code_ten {L : List Int} (ht : IsT L) : codeOf L < 1024 := Nat.lt_of_lt_of_le (code_lt L) (by
  have h5 := ht.2
  have h := rows_count ⟨L.length, by omega⟩
  have : ∀ n : Fin 6, 2 ^ (rows n.val).length ≤ 1024 := by decide
  exact this ⟨L.length, by omega⟩)
theorem rk_small (s : Nat) : rkT s ≤ 7 := by unfold rkT; omega
set_option maxHeartbeats 800000 in
theorem fnRanks_long (A : Option Addr) (n c : Nat) (w : World) (h : 1048576 < n) (hm : n ≤ maxLen) :
    Calls Tryd.prog 5 #[.slice A n c] w (Fine w) := by
  unfold maxLen at hm
  have hd : decide ((1048576 : Int) < (n : Int)) = true := by simp; omega
  go_enter Tryd.func5, Tryd.ntmps5
  go_wp2
  go_ret
  exact ⟨rfl, Below.refl _ _⟩

set_option maxHeartbeats 4000000 in
theorem fnRanks_short (A : Option Addr) (n c : Nat) (w : World) (hs : n ≤ 1048576) (hT : Tab w)
    (hD : Calls Tryd.prog 12 #[.slice A n c] w (DrewE w)) :
    Calls Tryd.prog 5 #[.slice A n c] w (Fine w) := by
  have h2 := hT.lt
  have hd : decide ((1048576 : Int) < (n : Int)) = false := by simp; omega
  have HD := Lib.hid hD
  have HT := Lib.hid hT
  clear hD hT hs
  go_enter Tryd.func5, Tryd.ntmps5
  go_wp2_with fail
  refine HD.out.mono ?_
  rintro e w1 ⟨v, L, z, rfl, l1, l5, z1, z2, r, b1⟩
  by_cases h : IsT L ∧ hasE z (codeOf L) = true
  · obtain ⟨ht, hE⟩ := h
    obtain ⟨s, rfl, hsub, hsle⟩ := hasE_nat hE
    have hc := code_ten ht
    have HI := Lib.hid (fun B v w => implRank_yes B v L ht s hE w)
    have HS := Lib.hid (fun B v w => specRankF_yes B v L ht s hE w)
    have HC := Lib.hid (fun B v w => implGraphCode_yes B v L ht.1 w)
    have HA := Lib.hid (fun B v w => implRank_yes B v L ht (codeOf L) (hasE_of (Nat.and_self _)) w)
    have HX := Lib.hid (fun B v w => implRank_yes B v L ht (less (codeOf L) s) (hasE_of (less_sub hc)) w)
    have q1 := rank_sum hc hsub
    have k1 := rk_small s
    have k2 := rk_small (codeOf L)
    have k3 := rk_small (less (codeOf L) s)
    have hop := less_op (codeOf L) s (by omega) (by omega)
    obtain ⟨c0, ec0⟩ : ∃ c0, c0 = codeOf L := ⟨_, rfl⟩
    rw [← ec0] at HC HA HX q1 k2 k3 hop hc hsle
    obtain ⟨m, em⟩ : ∃ m, m = less c0 s := ⟨_, rfl⟩
    rw [← em] at HX q1 k3 hop
    obtain ⟨x, ex⟩ : ∃ x, x = rkT s := ⟨_, rfl⟩
    rw [← ex] at HI HS q1 k1
    obtain ⟨y, ey⟩ : ∃ y, y = rkT c0 := ⟨_, rfl⟩
    rw [← ey] at HA q1 k2
    obtain ⟨u, eu⟩ : ∃ u, u = rkT m := ⟨_, rfl⟩
    rw [← eu] at HX q1 k3
    have HOP := Lib.hid hop
    clear hop ht hE hsub ec0 em ex ey eu
    go_wp2_with fail
    refine (HI.out _ v _ r (HT.out.below b1 (by omega))).mono ?_
    rintro e w2 ⟨rfl, bb2⟩
    have b2 := b1.trans (bb2.mono b1.size)
    have r_2 := r.below bb2
    go_wp2_with fail
    refine (HS.out _ v _ r_2).mono ?_
    rintro e w3 ⟨rfl, bb3⟩
    have b3 := b2.trans (bb3.mono b2.size)
    have r_3 := r_2.below bb3
    go_wp2_with fail
    refine (HC.out _ v _ r_3 (HT.out.below b3 (by omega))).mono ?_
    rintro e w4 ⟨rfl, bb4⟩
    have b4 := b3.trans (bb4.mono b3.size)
    have r_4 := r_3.below bb4
    go_wp2_with fail
    refine (HA.out _ v _ r_4 (HT.out.below b4 (by omega))).mono ?_
    rintro e w5 ⟨rfl, bb5⟩
    have b5 := b4.trans (bb5.mono b4.size)
    have r_5 := r_4.below bb5
    have hop := HOP.out
    go_wp2_with fail
    refine (HX.out _ v _ r_5 (HT.out.below b5 (by omega))).mono ?_
    rintro e w6 ⟨rfl, bb6⟩
    have b6 := b5.trans (bb6.mono b5.size)
    have r_6 := r_5.below bb6
    go_wp2
    all_goals first
      | (exfalso; omega)
      | (go_ret
         exact ⟨by first | (simp; done) | (simp; omega), b6⟩)
  · have HI : Hid (∀ B v w, Row w B v L → Tab w → Calls Tryd.prog 13 #[v, .int .i64 z] w (NumsZ1 w 0 false)) := Lib.hid fun B v w a t => by
      by_cases ht : IsT L
      · exact implRank_set B v L ht z (by omega) (by omega) (by cases e : hasE z (codeOf L) with | false => rfl | true => exact absurd ⟨ht, e⟩ h) w a t
      · exact implRank_no B v L ht z w a t
    have HS : Hid (∀ B v w, Row w B v L → Calls Tryd.prog 14 #[v, .int .i64 z] w (NumsZ1 w 0 false)) := Lib.hid fun B v w a => by
      by_cases ht : IsT L
      · exact specRankF_set B v L ht z (by omega) (by omega) (by cases e : hasE z (codeOf L) with | false => rfl | true => exact absurd ⟨ht, e⟩ h) w a
      · exact specRankF_no B v L ht z w a
    clear h
    go_wp2_with fail
    refine (HI.out _ v _ r (HT.out.below b1 (by omega))).mono ?_
    rintro e w2 ⟨rfl, bb2⟩
    have b2 := b1.trans (bb2.mono b1.size)
    have r_2 := r.below bb2
    go_wp2_with fail
    refine (HS.out _ v _ r_2).mono ?_
    rintro e w3 ⟨rfl, bb3⟩
    have b3 := b2.trans (bb3.mono b2.size)
    have r_3 := r_2.below bb3
    go_wp2
    go_ret
    exact ⟨by simp, b3⟩
end Go.Proofs.YtamabhdbcmjbjaaDoor
