/- The law FnJoin returns true and leaves all that was there as it was, whatever is drawn. -/
import Derived.Test.YtjkepoalepmjoaaDoorDrawGraphJoin
import Derived.Test.YtjkepoalepmjoaaDoorBaseN
import Derived.Test.YtjkepoalepmjoaaDoorBaseM
import Derived.Test.YtjkepoalepmjoaaDoorPromJoin
namespace Go.Proofs.YtjkepoalepmjoaaDoor
open Go Go.RowKit
set_option linter.unusedVariables false
set_option maxRecDepth 100000

theorem join_sets {L M : List Int} (hL : IsGraph L) (hM : IsGraph M) (h6 : L.length + M.length ≤ 6) : 1 ≤ lowS L.length ∧ lowS L.length < 2 ^ (joinL L M).length ∧ 1 ≤ highS L.length M.length ∧ highS L.length M.length < 2 ^ (joinL L M).length := by
  have h1 := hL.1
  have h2 := hM.1
  have h3 : ∀ n : Fin 7, ∀ m : Fin 7, 1 ≤ n.val → 1 ≤ m.val → n.val + m.val ≤ 6 → 1 ≤ lowS n.val ∧ lowS n.val < 2 ^ (n.val + m.val) ∧ 1 ≤ highS n.val m.val ∧ highS n.val m.val < 2 ^ (n.val + m.val) := by decide +kernel
  rw [joinL_length]
  exact h3 ⟨L.length, by omega⟩ ⟨M.length, by omega⟩ h1 h2 h6
theorem low_of {n P Q : Nat} (hP : P = 2 ^ n) (hQ : Q + 1 = P) : lowS n = Q := by
  unfold lowS
  omega
theorem join_high {n m P Q S : Nat} (hm : m ≤ 3) (hn : n ≤ 4) (hP : P = 2 ^ m) (hQ : Q + 1 = P) (hS : S = highS n m) : IntKind.i64.wrap ((Q : Int) * 2 ^ n) = (S : Int) ∧ wrap64 ((Q : Int) * 2 ^ n) = (S : Int) ∧ (Q : Int) * 2 ^ n = (S : Int) ∧ IntKind.i64.wrap (S : Int) = (S : Int) := by
  have e : (Q : Int) * 2 ^ n = (S : Int) := by
    rw [hS, highS, show 2 ^ m - 1 = Q by omega]
    simp
  have hb : S < 9223372036854775808 := by
    have h3 : ∀ n : Fin 5, ∀ m : Fin 4, highS n.val m.val < 1024 := by decide +kernel
    have := h3 ⟨n, by omega⟩ ⟨m, by omega⟩
    dsimp only at this
    omega
  have hw := wrapN S hb
  have e2 : wrap64 (S : Int) = (S : Int) := wrap_idD (by omega) (by omega)
  exact ⟨by rw [e]; exact hw, by rw [e]; exact e2, e, hw⟩
set_option maxHeartbeats 800000 in
theorem fnJoin_long (A : Option Addr) (n c : Nat) (w : World) (h : 1048576 < n) (hm : n ≤ maxLen) :
    Calls Tryd.prog 11 #[.slice A n c] w (Fine w) := by
  unfold maxLen at hm
  have hd : decide ((1048576 : Int) < (n : Int)) = true := by simp; omega
  go_enter Tryd.func11, Tryd.ntmps11
  go_wp2
  go_ret
  exact ⟨rfl, Below.refl _ _⟩

set_option maxHeartbeats 4000000 in
theorem fnJoin_short (A : Option Addr) (n c : Nat) (w : World) (hs : n ≤ 1048576) (hT : Tab w)
    (hD : Calls Tryd.prog 41 #[.slice A n c] w (DrewTwo 4 3 w)) :
    Calls Tryd.prog 11 #[.slice A n c] w (Fine w) := by
  have h2 := hT.lt
  have hd : decide ((1048576 : Int) < (n : Int)) = false := by simp; omega
  have HD := Lib.hid hD
  have HT := Lib.hid hT
  clear hD hT hs
  go_enter Tryd.func11, Tryd.ntmps11
  go_wp2_with fail
  refine HD.out.mono ?_
  rintro e w1 ⟨v, L, v', M, rfl, ⟨l1, l6⟩, ⟨k1, k6⟩, r, r', b1⟩
  by_cases h : IsGraph L
  · by_cases h' : IsGraph M
    · by_cases h6 : L.length + M.length ≤ 6
      · have hJ := join_graph h h' h6
        have HC := Lib.hid (fun B B' v v' w => implJoin_both B B' v v' L M h h' h6 w)
        have HS := Lib.hid (fun B B' v v' w => specJoin_both B B' v v' L M h h' h6 w)
        have HE := Lib.hid (fun B v w => implGraphEdges_yes B v L h w)
        have HE2 := Lib.hid (fun B v w => implGraphEdges_yes B v M h' w)
        have HE3 := Lib.hid (fun B v w => implGraphEdges_yes B v (joinL L M) hJ w)
        have hsum := join_edges h h' h6
        have hxl := edgesN_le L
        have hyl := edgesN_le M
        obtain ⟨hj1, hj2, hj3, hj4⟩ := join_sets h h' h6
        have HP1 := Lib.hid (fun B v w => implGPart_good B v (joinL L M) (lowS L.length) hJ hj1 hj2 w)
        have HP2 := Lib.hid (fun B v w => implGPart_good B v (joinL L M) (highS L.length M.length) hJ hj3 hj4 w)
        rw [← partG_eq hJ hj2, part_low h h' h6] at HP1
        rw [← partG_eq hJ hj4, part_high h h' h6] at HP2
        have HK := Lib.hid (fun B v w => implLinked_any B v (joinL L M) false ⟨fun x => (by cases x), fun x => absurd x (join_apart h h' h6)⟩ w)
        have hjl : (joinL L M).length ≤ 6 := hJ.2.1
        obtain ⟨J, eJ⟩ : ∃ J, J = joinL L M := ⟨_, rfl⟩
        rw [← eJ] at HC HS HE3 HP1 HP2 HK hsum hjl
        obtain ⟨x, ex⟩ : ∃ x, x = edgesN L := ⟨_, rfl⟩
        rw [← ex] at HE hsum hxl
        obtain ⟨y, ey⟩ : ∃ y, y = edgesN M := ⟨_, rfl⟩
        rw [← ey] at HE2 hsum hyl
        obtain ⟨z, ez⟩ : ∃ z, z = edgesN J := ⟨_, rfl⟩
        rw [← ez] at HE3 hsum
        have hs : (x : Int) + (y : Int) = (z : Nat) := by omega
        have hw := wrapN z (by omega)
        obtain ⟨P, Q, hP, hQ, hP64, s1, s2, s3, s4, s5⟩ := shl_facts L.length (Nat.le_trans l6 (by decide))
        obtain ⟨P2, Q2, hP2, hQ2, hP642, s12, s22, s32, s42, s52⟩ := shl_facts M.length (Nat.le_trans k6 (by decide))
        have hQ0 := low_of hP hQ
        rw [hQ0] at HP1
        obtain ⟨S, eS⟩ : ∃ S, S = highS L.length M.length := ⟨_, rfl⟩
        have s6 := join_high k6 l6 hP2 hQ2 eS
        rw [← eS] at HP2
        clear h h' hJ hj1 hj2 hj3 hj4 hQ0 eS eJ ex ey ez hsum hP hP2 hQ hQ2 h6
        go_wp2_with fail
        refine (HC.out _ _ v v' _ r r' (HT.out.below b1 (by omega))).mono ?_
        rintro e w2 ⟨vo, rfl, ro0, bb2⟩
        have b2 := b1.trans (bb2.mono b1.size)
        have r_2 := r.below bb2
        have rm_2 := r'.below bb2
        go_wp2_with fail
        refine (HS.out _ _ v v' _ r_2 rm_2).mono ?_
        rintro e w3 ⟨vt, rfl, rt0, bb3⟩
        have b3 := b2.trans (bb3.mono b2.size)
        have r_3 := r_2.below bb3
        have rm_3 := rm_2.below bb3
        have ro_3 := ro0.below bb3
        go_wp2_with fail
        refine (sameI_yes _ _ vo vt J _ ro_3 rt0 (by omega)).mono ?_
        rintro e w4 ⟨rfl, d4, rfl⟩
        have b4 := below_drewN b3 d4
        have r_4 := r_3.drewN d4
        have rm_4 := rm_3.drewN d4
        have ro_4 := ro_3.drewN d4
        have rt_4 := rt0.drewN d4
        go_wp2_with fail
        refine (HE.out _ v _ r_4 (HT.out.below b4 (by omega))).mono ?_
        rintro e w5 ⟨rfl, bb5⟩
        have b5 := b4.trans (bb5.mono b4.size)
        have r_5 := r_4.below bb5
        have rm_5 := rm_4.below bb5
        have ro_5 := ro_4.below bb5
        have rt_5 := rt_4.below bb5
        go_wp2_with fail
        refine (HE2.out _ v' _ rm_5 (HT.out.below b5 (by omega))).mono ?_
        rintro e w6 ⟨rfl, bb6⟩
        have b6 := b5.trans (bb6.mono b5.size)
        have r_6 := r_5.below bb6
        have rm_6 := rm_5.below bb6
        have ro_6 := ro_5.below bb6
        have rt_6 := rt_5.below bb6
        go_wp2_with fail
        refine (HE3.out _ vo _ ro_6 (HT.out.below b6 (by omega))).mono ?_
        rintro e w7 ⟨rfl, bb7⟩
        have b7 := b6.trans (bb7.mono b6.size)
        have r_7 := r_6.below bb7
        have rm_7 := rm_6.below bb7
        have ro_7 := ro_6.below bb7
        have rt_7 := rt_6.below bb7
        obtain ⟨A1, c1, rfl, _⟩ := r_7.seen
        obtain ⟨A2, c2, rfl, _⟩ := rm_7.seen
        go_wp2_with fail
        refine (HP1.out _ vo _ ro_7 (HT.out.below b7 (by omega))).mono ?_
        rintro e w8 ⟨vp, rfl, rp0, bb8⟩
        have b8 := b7.trans (bb8.mono b7.size)
        have r_8 := r_7.below bb8
        have rm_8 := rm_7.below bb8
        have ro_8 := ro_7.below bb8
        have rt_8 := rt_7.below bb8
        go_wp2_with fail
        refine (HP2.out _ vo _ ro_8 (HT.out.below b8 (by omega))).mono ?_
        rintro e w9 ⟨vq, rfl, rq0, bb9⟩
        have b9 := b8.trans (bb9.mono b8.size)
        have r_9 := r_8.below bb9
        have rm_9 := rm_8.below bb9
        have ro_9 := ro_8.below bb9
        have rt_9 := rt_8.below bb9
        have rp_9 := rp0.below bb9
        go_wp2_with fail
        refine (sameI_yes _ _ vp _ L _ rp_9 r_9 (by omega)).mono ?_
        rintro e w10 ⟨rfl, d10, rfl⟩
        have b10 := below_drewN b9 d10
        have r_10 := r_9.drewN d10
        have rm_10 := rm_9.drewN d10
        have ro_10 := ro_9.drewN d10
        have rt_10 := rt_9.drewN d10
        have rp_10 := rp_9.drewN d10
        have rq_10 := rq0.drewN d10
        go_wp2_with fail
        refine (sameI_yes _ _ vq _ M _ rq_10 rm_10 (by omega)).mono ?_
        rintro e w11 ⟨rfl, d11, rfl⟩
        have b11 := below_drewN b10 d11
        have r_11 := r_10.drewN d11
        have rm_11 := rm_10.drewN d11
        have ro_11 := ro_10.drewN d11
        have rt_11 := rt_10.drewN d11
        have rp_11 := rp_10.drewN d11
        have rq_11 := rq_10.drewN d11
        rw [World.drewN_drewN] at r_11 rm_11 ro_11 rt_11 rp_11 rq_11 b11
        go_wp2_with fail
        refine (HK.out _ vo _ ro_11 (HT.out.below b11 (by omega))).mono ?_
        rintro e w12 ⟨rfl, bb12⟩
        have b12 := b11.trans (bb12.mono b11.size)
        have r_12 := r_11.below bb12
        have rm_12 := rm_11.below bb12
        have ro_12 := ro_11.below bb12
        have rt_12 := rt_11.below bb12
        have rp_12 := rp_11.below bb12
        have rq_12 := rq_11.below bb12
        go_wp2
        go_ret
        exact ⟨by simp, b12⟩
      · have HC := Lib.hid (fun B B' v v' w => implJoin_more B B' v v' L M h h' (by omega) w)
        have HS := Lib.hid (fun B B' v v' w => specJoin_more B B' v v' L M h h' (by omega) w)
        clear h h' h6
        go_wp2_with fail
        refine (HC.out _ _ v v' _ r r' (HT.out.below b1 (by omega))).mono ?_
        rintro e w2 ⟨vd, rfl, rd0, bb2⟩
        have b2 := b1.trans (bb2.mono b1.size)
        have r_2 := r.below bb2
        have rm_2 := r'.below bb2
        go_wp2_with fail
        refine (HS.out _ _ v v' _ r_2 rm_2).mono ?_
        rintro e w3 ⟨vs, rfl, rs0, bb3⟩
        have b3 := b2.trans (bb3.mono b2.size)
        have r_3 := r_2.below bb3
        have rm_3 := rm_2.below bb3
        have rd_3 := rd0.below bb3
        go_wp2_with fail
        refine (sameI_yes _ _ vd vs [] _ rd_3 rs0 (by simp)).mono ?_
        rintro e w4 ⟨rfl, d4, rfl⟩
        have b4 := below_drewN b3 d4
        have r_4 := r_3.drewN d4
        have rm_4 := rm_3.drewN d4
        have rd_4 := rd_3.drewN d4
        have rs_4 := rs0.drewN d4
        go_wp2_with fail
        refine (sameI_yes _ _ vd vs [] _ rd_4 rs_4 (by simp)).mono ?_
        rintro e w5 ⟨rfl, d5, rfl⟩
        have b5 := below_drewN b4 d5
        have r_5 := r_4.drewN d5
        have rm_5 := rm_4.drewN d5
        have rd_5 := rd_4.drewN d5
        have rs_5 := rs_4.drewN d5
        go_wp2
        go_ret
        exact ⟨by simp, by simpa using b5⟩
    · have HC := Lib.hid (fun B B' v v' w => implJoin_second B B' v v' L M h h' w)
      have HS := Lib.hid (fun B B' v v' w => specJoin_second B B' v v' L M h h' w)
      clear h h'
      go_wp2_with fail
      refine (HC.out _ _ v v' _ r r' (HT.out.below b1 (by omega))).mono ?_
      rintro e w2 ⟨vd, rfl, rd0, bb2⟩
      have b2 := b1.trans (bb2.mono b1.size)
      have r_2 := r.below bb2
      have rm_2 := r'.below bb2
      go_wp2_with fail
      refine (HS.out _ _ v v' _ r_2 rm_2).mono ?_
      rintro e w3 ⟨vs, rfl, rs0, bb3⟩
      have b3 := b2.trans (bb3.mono b2.size)
      have r_3 := r_2.below bb3
      have rm_3 := rm_2.below bb3
      have rd_3 := rd0.below bb3
      go_wp2_with fail
      refine (sameI_yes _ _ vd vs [] _ rd_3 rs0 (by simp)).mono ?_
      rintro e w4 ⟨rfl, d4, rfl⟩
      have b4 := below_drewN b3 d4
      have r_4 := r_3.drewN d4
      have rm_4 := rm_3.drewN d4
      have rd_4 := rd_3.drewN d4
      have rs_4 := rs0.drewN d4
      go_wp2_with fail
      refine (sameI_yes _ _ vd vs [] _ rd_4 rs_4 (by simp)).mono ?_
      rintro e w5 ⟨rfl, d5, rfl⟩
      have b5 := below_drewN b4 d5
      have r_5 := r_4.drewN d5
      have rm_5 := rm_4.drewN d5
      have rd_5 := rd_4.drewN d5
      have rs_5 := rs_4.drewN d5
      go_wp2
      go_ret
      exact ⟨by simp, by simpa using b5⟩
  · have HC := Lib.hid (fun B B' v v' w => implJoin_first B B' v v' L M h w)
    have HS := Lib.hid (fun B B' v v' w => specJoin_first B B' v v' L M h w)
    clear h
    go_wp2_with fail
    refine (HC.out _ _ v v' _ r r' (HT.out.below b1 (by omega))).mono ?_
    rintro e w2 ⟨vd, rfl, rd0, bb2⟩
    have b2 := b1.trans (bb2.mono b1.size)
    have r_2 := r.below bb2
    have rm_2 := r'.below bb2
    go_wp2_with fail
    refine (HS.out _ _ v v' _ r_2 rm_2).mono ?_
    rintro e w3 ⟨vs, rfl, rs0, bb3⟩
    have b3 := b2.trans (bb3.mono b2.size)
    have r_3 := r_2.below bb3
    have rm_3 := rm_2.below bb3
    have rd_3 := rd0.below bb3
    go_wp2_with fail
    refine (sameI_yes _ _ vd vs [] _ rd_3 rs0 (by simp)).mono ?_
    rintro e w4 ⟨rfl, d4, rfl⟩
    have b4 := below_drewN b3 d4
    have r_4 := r_3.drewN d4
    have rm_4 := rm_3.drewN d4
    have rd_4 := rd_3.drewN d4
    have rs_4 := rs0.drewN d4
    go_wp2_with fail
    refine (sameI_yes _ _ vd vs [] _ rd_4 rs_4 (by simp)).mono ?_
    rintro e w5 ⟨rfl, d5, rfl⟩
    have b5 := below_drewN b4 d5
    have r_5 := r_4.drewN d5
    have rm_5 := rm_4.drewN d5
    have rd_5 := rd_4.drewN d5
    have rs_5 := rs_4.drewN d5
    go_wp2
    go_ret
    exact ⟨by simp, by simpa using b5⟩
end Go.Proofs.YtjkepoalepmjoaaDoor
