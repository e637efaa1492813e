/- The law FnNear returns true and leaves all that was there as it was, whatever is drawn. -/
import Derived.Test.YtamabhdbcmjbjaaDoorDrawNearLeast
import Derived.Test.YtamabhdbcmjbjaaDoorNearFns
import Derived.Test.YtamabhdbcmjbjaaDoorImplOther
import Derived.Test.YtamabhdbcmjbjaaDoorImplEdges
import Derived.Test.YtamabhdbcmjbjaaDoorImplAlikeIn
import Derived.Test.YtamabhdbcmjbjaaDoorLikeRel
import Derived.Test.YtamabhdbcmjbjaaDoorNearProm
namespace Go.Proofs.YtamabhdbcmjbjaaDoor
open Go Go.RowKit
set_option linter.unusedVariables false
set_option maxRecDepth 100000

theorem near_pack {L M : List Int} (hp : IsPair L M) : ∃ d c e k : Nat, d = nearD L M ∧ c = edgesN L ∧ e = edgesN M ∧ nearD M L = d ∧ nearD (otherL L L.length) (otherL M M.length) = d ∧ d + 2 * k = c + e ∧ k ≤ c ∧ k ≤ e ∧ c ≤ 15 ∧ e ≤ 15 := by
  obtain ⟨hL, hM, hl⟩ := hp
  obtain ⟨k, h1, h2, h3⟩ := near_edges hL hM hl
  exact ⟨_, _, _, k, rfl, rfl, rfl, nearD_turn hL hM hl, nearD_other hL hM hl, h1, h2, h3, edgesN_le L, edgesN_le M⟩
theorem pair_turn {L M : List Int} (h : IsPair L M) : IsPair M L := ⟨h.2.1, h.1, h.2.2.symm⟩
theorem pair_other {L M : List Int} (h : IsPair L M) : IsPair (otherL L L.length) (otherL M M.length) := ⟨other_graph h.1, other_graph h.2.1, by rw [otherL_length, otherL_length]; exact h.2.2⟩
set_option maxHeartbeats 800000 in
theorem fnNear_long (A : Option Addr) (n c : Nat) (w : World) (h : 1048576 < n) (hm : n ≤ maxLen) :
    Calls Tryd.prog 6 #[.slice A n c] w (Fine w) := by
  unfold maxLen at hm
  have hd : decide ((1048576 : Int) < (n : Int)) = true := by simp; omega
  go_enter Tryd.func6, Tryd.ntmps6
  go_wp2
  go_ret
  exact ⟨rfl, Below.refl _ _⟩

set_option maxHeartbeats 4000000 in
theorem fnNear_short (A : Option Addr) (n c : Nat) (w : World) (hs : n ≤ 1048576) (hT : Tab w)
    (hD : Calls Tryd.prog 16 #[.slice A n c] w (DrewTwo 5 6 w)) :
    Calls Tryd.prog 6 #[.slice A n c] w (Fine w) := by
  have h2 := hT.lt
  have hd : decide ((1048576 : Int) < (n : Int)) = false := by simp; omega
  have HD := Lib.hid hD
  have HT := Lib.hid hT
  clear hD hT hs
  go_enter Tryd.func6, Tryd.ntmps6
  go_wp2_with fail
  refine HD.out.mono ?_
  rintro e w1 ⟨v, L, v2, M, rfl, l1, l2, r, rm, b1⟩
  by_cases hp : IsPair L M
  · obtain ⟨d, c1, c2, k, ed, ec, ee, et, eo, hs, hk1, hk2, hc, he⟩ := near_pack hp
    obtain ⟨b, eb⟩ : ∃ b, b = decide (edgesN L = edgesN M ∧ leastL L = leastL M) := ⟨_, rfl⟩
    have hb : b = true ↔ Like L M := by rw [eb, decide_eq_true_eq]; exact ⟨fun h => ⟨hp.1, hp.2.1, hp.2.2, h⟩, fun h => h.2.2.2⟩
    have HAi := fun B B2 v v2 w a q t => implAlike_graphs B B2 v v2 L M b hp.1 hp.2.1 w a q t (fun A A2 c c2 w sL sM hT => by rw [eb]; exact alike_any A A2 c c2 L M hp.1 hp.2.1 hp.2.2 w sL sM hT)
    have hlk : b = decide (d = 0) := by
      rw [Bool.eq_iff_iff, hb, decide_eq_true_eq, ed, near_zero hp.1 hp.2.1 hp.2.2]
      exact ⟨fun h => by obtain ⟨P, _, h1, h2⟩ := like_names h; exact ⟨P, h1, h2⟩, fun ⟨P, h1, h2⟩ => by rw [← h2]; exact like_named hp.1 h1⟩
    have HI := Lib.hid (fun B B2 v v2 w => implNl_yes B B2 v v2 L M hp w)
    have HS := Lib.hid (fun B B2 v v2 w => specNl_yes B B2 v v2 L M hp w)
    have HI2 := Lib.hid (fun B B2 v v2 w => implNl_yes B B2 v v2 M L (pair_turn hp) w)
    have HO := Lib.hid (fun B v w => implGraphOther_yes B v L hp.1 w)
    have HO2 := Lib.hid (fun B v w => implGraphOther_yes B v M hp.2.1 w)
    have HI3 := Lib.hid (fun B B2 v v2 w => implNl_yes B B2 v v2 (otherL L L.length) (otherL M M.length) (pair_other hp) w)
    have HE := Lib.hid (fun B v w => implGraphEdges_yes B v L hp.1 w)
    have HE2 := Lib.hid (fun B v w => implGraphEdges_yes B v M hp.2.1 w)
    have HA := Lib.hid (fun B B2 v v2 w => HAi B B2 v v2 w)
    have eD : unlike L M (nearN L M) = d := ed.symm
    have eT : unlike M L (nearN M L) = d := et
    have eO : unlike (otherL L L.length) (otherL M M.length) (nearN (otherL L L.length) (otherL M M.length)) = d := eo
    rw [eD] at HI HS
    rw [eT] at HI2
    rw [eO] at HI3
    rw [← ec] at HE
    rw [← ee] at HE2
    obtain ⟨X, eX⟩ : ∃ X, X = otherL L L.length := ⟨_, rfl⟩
    obtain ⟨Y, eY⟩ : ∃ Y, Y = otherL M M.length := ⟨_, rfl⟩
    rw [← eX] at HO HI3
    rw [← eY] at HO2 HI3
    have HB := Lib.hid hlk
    have HSM := Lib.hid (And.intro hs (And.intro hk1 hk2))
    clear HAi hb eb hlk eD eT eO ed ec ee et eo eX eY hs hk1 hk2 hp
    go_wp2_with fail
    refine (HI.out _ _ v v2 _ r rm (HT.out.below b1 (by omega))).mono ?_
    rintro e w2 ⟨rfl, bb2⟩
    have b2 := b1.trans (bb2.mono b1.size)
    have r_2 := r.below bb2
    have m_2 := rm.below bb2
    go_wp2_with fail
    refine (HS.out _ _ v v2 _ r_2 m_2).mono ?_
    rintro e w3 ⟨rfl, bb3⟩
    have b3 := b2.trans (bb3.mono b2.size)
    have r_3 := r_2.below bb3
    have m_3 := m_2.below bb3
    go_wp2_with fail
    refine (HI2.out _ _ v2 v _ m_3 r_3 (HT.out.below b3 (by omega))).mono ?_
    rintro e w4 ⟨rfl, bb4⟩
    have b4 := b3.trans (bb4.mono b3.size)
    have r_4 := r_3.below bb4
    have m_4 := m_3.below bb4
    go_wp2_with fail
    refine (HO.out _ v _ r_4 (HT.out.below b4 (by omega))).mono ?_
    rintro e w5 ⟨vx, rfl, rx0, bb5⟩
    have b5 := b4.trans (bb5.mono b4.size)
    have r_5 := r_4.below bb5
    have m_5 := m_4.below bb5
    go_wp2_with fail
    refine (HO2.out _ v2 _ m_5 (HT.out.below b5 (by omega))).mono ?_
    rintro e w6 ⟨vy, rfl, ry0, bb6⟩
    have b6 := b5.trans (bb6.mono b5.size)
    have r_6 := r_5.below bb6
    have m_6 := m_5.below bb6
    have rx_6 := rx0.below bb6
    go_wp2_with fail
    refine (HI3.out _ _ vx vy _ rx_6 ry0 (HT.out.below b6 (by omega))).mono ?_
    rintro e w7 ⟨rfl, bb7⟩
    have b7 := b6.trans (bb7.mono b6.size)
    have r_7 := r_6.below bb7
    have m_7 := m_6.below bb7
    have rx_7 := rx_6.below bb7
    have ry_7 := ry0.below bb7
    go_wp2_with fail
    refine (HE.out _ v _ r_7 (HT.out.below b7 (by omega))).mono ?_
    rintro e w8 ⟨rfl, bb8⟩
    have b8 := b7.trans (bb8.mono b7.size)
    have r_8 := r_7.below bb8
    have m_8 := m_7.below bb8
    have rx_8 := rx_7.below bb8
    have ry_8 := ry_7.below bb8
    go_wp2_with fail
    refine (HE2.out _ v2 _ m_8 (HT.out.below b8 (by omega))).mono ?_
    rintro e w9 ⟨rfl, bb9⟩
    have b9 := b8.trans (bb9.mono b8.size)
    have r_9 := r_8.below bb9
    have m_9 := m_8.below bb9
    have rx_9 := rx_8.below bb9
    have ry_9 := ry_8.below bb9
    obtain ⟨hs, hk1, hk2⟩ := HSM.out
    have hb := HB.out
    clear HSM HB
    have hzt : ((d : Int) - (c1 : Int) - (c2 : Int)).tmod 2 = 0 := by rw [show (d : Int) - (c1 : Int) - (c2 : Int) = -(((2 * k : Nat) : Int)) by omega, Int.neg_tmod, Int.tmod_eq_emod_of_nonneg (by omega)]; omega
    have HZT := Lib.hid hzt
    have hd30 : d ≤ 30 := by omega
    clear hzt
    by_cases hd0 : d = 0
    · rw [decide_eq_true hd0] at hb
      subst hb
      go_wp2_with fail
      refine (HA.out _ _ v v2 _ r_9 m_9 (HT.out.below b9 (by omega))).mono ?_
      rintro e wz ⟨rfl, bbz⟩
      have bz := b9.trans (bbz.mono b9.size)
      have hzt := HZT.out
      have hzt0 : (-(c1 : Int) - (c2 : Int)).tmod 2 = 0 := by rw [hd0] at hzt; simpa using hzt
      by_cases hle : c1 ≤ c2
      · have hge : c2 ≤ d + c1 := by omega
        go_wp2
        all_goals first
          | (exfalso; omega)
          | (go_ret
             exact ⟨by first | (simp; done) | (simp; exact hd0) | (simp; exact hzt0) | (simp; omega), bz⟩)
      · have hge : c1 ≤ d + c2 := by omega
        go_wp2
        all_goals first
          | (exfalso; omega)
          | (go_ret
             exact ⟨by first | (simp; done) | (simp; exact hd0) | (simp; exact hzt0) | (simp; omega), bz⟩)
    · rw [decide_eq_false hd0] at hb
      subst hb
      go_wp2_with fail
      refine (HA.out _ _ v v2 _ r_9 m_9 (HT.out.below b9 (by omega))).mono ?_
      rintro e wz ⟨rfl, bbz⟩
      have bz := b9.trans (bbz.mono b9.size)
      have hzt := HZT.out
      have hzt0 := hzt
      by_cases hle : c1 ≤ c2
      · have hge : c2 ≤ d + c1 := by omega
        go_wp2
        all_goals first
          | (exfalso; omega)
          | (go_ret
             exact ⟨by first | (simp; done) | (simp; exact hd0) | (simp; exact hzt0) | (simp; omega), bz⟩)
      · have hge : c1 ≤ d + c2 := by omega
        go_wp2
        all_goals first
          | (exfalso; omega)
          | (go_ret
             exact ⟨by first | (simp; done) | (simp; exact hd0) | (simp; exact hzt0) | (simp; omega), bz⟩)
  · have HI := Lib.hid (fun B B2 v v2 w => implNl_no B B2 v v2 L M hp w)
    have HS := Lib.hid (fun B B2 v v2 w => specNl_no B B2 v v2 L M hp w)
    clear hp
    go_wp2_with fail
    refine (HI.out _ _ v v2 _ r rm (HT.out.below b1 (by omega))).mono ?_
    rintro e w2 ⟨rfl, bb2⟩
    have b2 := b1.trans (bb2.mono b1.size)
    have r_2 := r.below bb2
    have m_2 := rm.below bb2
    go_wp2_with fail
    refine (HS.out _ _ v v2 _ r_2 m_2).mono ?_
    rintro e w3 ⟨rfl, bb3⟩
    have b3 := b2.trans (bb3.mono b2.size)
    have r_3 := r_2.below bb3
    have m_3 := m_2.below bb3
    go_wp2
    go_ret
    exact ⟨by simp, b3⟩
end Go.Proofs.YtamabhdbcmjbjaaDoor
