/- The law FnNamed returns true and leaves all that was there as it was, whatever is drawn. -/
import Derived.Test.YtjkepoalepmjoaaDoorDrawGraphNamed
import Derived.Test.YtjkepoalepmjoaaDoorBaseM
import Derived.Test.YtjkepoalepmjoaaDoorBaseN
import Derived.Test.YtjkepoalepmjoaaDoorPromNames
namespace Go.Proofs.YtjkepoalepmjoaaDoor
open Go Go.RowKit
set_option linter.unusedVariables false
set_option maxRecDepth 100000

set_option maxHeartbeats 800000 in
theorem fnNamed_long (A : Option Addr) (n c : Nat) (w : World) (h : 1048576 < n) (hm : n ≤ maxLen) :
    Calls Tryd.prog 8 #[.slice A n c] w (Fine w) := by
  unfold maxLen at hm
  have hd : decide ((1048576 : Int) < (n : Int)) = true := by simp; omega
  go_enter Tryd.func8, Tryd.ntmps8
  go_wp2
  go_ret
  exact ⟨rfl, Below.refl _ _⟩

set_option maxHeartbeats 4000000 in
theorem fnNamed_short (A : Option Addr) (n c : Nat) (w : World) (hs : n ≤ 1048576) (hT : Tab w)
    (hD : Calls Tryd.prog 32 #[.slice A n c] w (DrewTwo 6 6 w)) :
    Calls Tryd.prog 8 #[.slice A n c] w (Fine w) := by
  have h2 := hT.lt
  have hd : decide ((1048576 : Int) < (n : Int)) = false := by simp; omega
  have HD := Lib.hid hD
  have HT := Lib.hid hT
  clear hD hT hs
  go_enter Tryd.func8, Tryd.ntmps8
  go_wp2_with fail
  refine HD.out.mono ?_
  rintro e w1 ⟨v, L, v', N, rfl, ⟨l1, l6⟩, ⟨k1, k6⟩, r, r', b1⟩
  by_cases h : IsGraph L
  · by_cases h' : IsNames N L.length
    · obtain ⟨hQ, eQ⟩ := names_of_is h'
      obtain ⟨Q, eQ0⟩ : ∃ Q, Q = natOf N := ⟨_, rfl⟩
      rw [← eQ0] at hQ eQ
      have HC := Lib.hid (fun B B' v v' w => implGNamed_both B B' v v' L N h h' w)
      have HS := Lib.hid (fun B B' v v' w => specGNamed_both B B' v v' L N h h' w)
      have hNM : ints (mrun L L.length (nm N) (grid L.length L.length)) = namedL L Q := by rw [← eQ]; rfl
      rw [hNM] at HC HS
      have hM := named_graph h hQ
      have HD := Lib.hid (fun B v w => implGraphDegrees_yes B v L h w)
      have HD2 := Lib.hid (fun B v w => implGraphDegrees_yes B v (namedL L Q) hM w)
      have HI := Lib.hid (fun B v w => implIn_any B v (namedL L Q) true ⟨fun _ => hM, fun _ => rfl⟩ w)
      have hml : (namedL L Q).length ≤ 6 := hM.2.1
      have hnl : N.length = L.length := h'.1
      have HDEG : Hid (∀ i, i < L.length → ∃ x j : Nat, j < L.length ∧ N[i]?.getD 0 = (j : Int) ∧ (degL L L.length)[i]?.getD 0 = (x : Int) ∧ (degL (namedL L Q) (namedL L Q).length)[j]?.getD 0 = (x : Int)) := Lib.hid fun i hi => ⟨cnt (ent L i), at_ Q i, at_name hQ hi, by rw [← eQ, ints_get]; rfl, by simp [degL, hi], by rw [namedL_length]; simp [degL, at_name hQ hi, cnt_named h hQ hi]⟩
      have hdl1 : (degL L L.length).length = L.length := degL_length _ _
      have hdl2 : (degL (namedL L Q) (namedL L Q).length).length = L.length := by rw [degL_length, namedL_length]
      obtain ⟨D, eD⟩ : ∃ D, D = degL L L.length := ⟨_, rfl⟩
      obtain ⟨E, eE⟩ : ∃ E, E = degL (namedL L Q) (namedL L Q).length := ⟨_, rfl⟩
      rw [← eD] at HD HDEG hdl1
      rw [← eE] at HD2 HDEG hdl2
      obtain ⟨M, eM⟩ : ∃ M, M = namedL L Q := ⟨_, rfl⟩
      rw [← eM] at HC HS HD2 HI hml
      have HL1 := Lib.hid hdl1
      have HL2 := Lib.hid hdl2
      have HL3 := Lib.hid hnl
      clear h h' hQ eQ eQ0 hNM hM eD eE eM hdl1 hdl2 hnl
      go_wp2_with fail
      refine (HC.out _ _ v v' _ r r' (HT.out.below b1 (by omega))).mono ?_
      rintro e w2 ⟨vo, rfl, ro0, bb2⟩
      have b2 := b1.trans (bb2.mono b1.size)
      have r_2 := r.below bb2
      have rp_2 := r'.below bb2
      go_wp2_with fail
      refine (HS.out _ _ v v' _ r_2 rp_2).mono ?_
      rintro e w3 ⟨vs, rfl, rs0, bb3⟩
      have b3 := b2.trans (bb3.mono b2.size)
      have r_3 := r_2.below bb3
      have rp_3 := rp_2.below bb3
      have ro_3 := ro0.below bb3
      go_wp2_with fail
      refine (sameI_yes _ _ vo vs M _ ro_3 rs0 (by omega)).mono ?_
      rintro e w4 ⟨rfl, d4, rfl⟩
      have b4 := below_drewN b3 d4
      have r_4 := r_3.drewN d4
      have rp_4 := rp_3.drewN d4
      have ro_4 := ro_3.drewN d4
      have rs_4 := rs0.drewN d4
      go_wp2_with fail
      refine (HD.out _ v _ r_4 (HT.out.below b4 (by omega))).mono ?_
      rintro e w5 ⟨vd, rfl, rd0, bb5⟩
      have b5 := b4.trans (bb5.mono b4.size)
      have r_5 := r_4.below bb5
      have rp_5 := rp_4.below bb5
      have ro_5 := ro_4.below bb5
      have rs_5 := rs_4.below bb5
      go_wp2_with fail
      refine (HD2.out _ vo _ ro_5 (HT.out.below b5 (by omega))).mono ?_
      rintro e w6 ⟨ve, rfl, re0, bb6⟩
      have b6 := b5.trans (bb6.mono b5.size)
      have r_6 := r_5.below bb6
      have rp_6 := rp_5.below bb6
      have ro_6 := ro_5.below bb6
      have rs_6 := rs_5.below bb6
      have rd_6 := rd0.below bb6
      obtain ⟨A2, c2, rfl, s2⟩ := rd_6.seen
      obtain ⟨A3, c3, rfl, s3⟩ := re0.seen
      obtain ⟨A4, c4, rfl, s4⟩ := rp_6.seen
      have hl1 := HL1.out
      have hl2 := HL2.out
      have hl3 := HL3.out
      have RO := Lib.hid ro_6
      obtain ⟨m, em⟩ : ∃ m, m = L.length := ⟨_, rfl⟩
      rw [← em] at hl1 hl2 hl3 l1 l6
      rw [hl1, hl2, hl3]
      have EM := Lib.hid em
      have S2 := Lib.hid s2
      have S3 := Lib.hid s3
      have S4 := Lib.hid s4
      have H1 := Lib.hid hl1
      have H2 := Lib.hid hl2
      have H3 := Lib.hid hl3
      have BB := Lib.hid b6
      clear s2 s3 s4 em hl1 hl2 hl3 k1 k6
      obtain ⟨W0, eW0⟩ : ∃ W0, W0 = w6 := ⟨_, rfl⟩
      rw [← eW0] at S2 S3 S4 BB RO ⊢
      clear eW0
      go_wp2
      go_loopw [13] (fun i wr => ∃ k d : Nat, k ≤ m ∧ i = .int .i64 k ∧ wr = W0.drewN d) (fun i _ => m - (intOf i).toNat)
      case atStart => exact ⟨0, 0, Nat.zero_le _, rfl, rfl⟩
      case round =>
        obtain ⟨k, d, hk, rfl, ew⟩ := hrel
        have EW := Lib.hid ew
        by_cases hlt : k < m
        · obtain ⟨x, j, hj, hy, hx, hxy⟩ := HDEG.out k (by rw [← EM.out]; exact hlt)
          rw [← EM.out] at hj
          obtain ⟨g2, o2, rfl, _, q2⟩ := S2.out k (by rw [H1.out]; exact hlt)
          obtain ⟨g3, o3, rfl, _, q3⟩ := S3.out j (by rw [H2.out]; exact hj)
          obtain ⟨g4, o4, rfl, _, q4⟩ := S4.out k (by rw [H3.out]; exact hlt)
          rw [hx] at q2
          rw [hxy] at q3
          rw [hy] at q4
          have p2 : wr.cell? ⟨g2, o2 + k, none⟩ = some (.int .i64 x) := by rw [ew]; exact q2
          have p3 : wr.cell? ⟨g3, o3 + j, none⟩ = some (.int .i64 x) := by rw [ew]; exact q3
          have p4 : wr.cell? ⟨g4, o4 + k, none⟩ = some (.int .i64 j) := by rw [ew]; exact q4
          have hi : (0 : Int) ≤ (k : Int) ∧ (k : Int) < (m : Int) := by omega
          have hij : (0 : Int) ≤ (j : Int) ∧ (j : Int) < (m : Int) := by omega
          have hge : decide ((m : Int) ≤ (k : Int)) = false := by simp; omega
          clear ew q2 q3 q4 hx hy hxy hj
          go_wp2
          go_quiet (fail)
          go_wp2
          exact ⟨⟨k + 1, d + _, by omega, congrArg (Value.int .i64) (by omega), by rw [EW.out, World.drewN_drewN]⟩, by simp [intOf]; omega⟩
        · have hkm : m = k := by omega
          subst hkm
          have BD := below_drewN BB.out d
          have rod := RO.out.drewN d
          rw [← EW.out] at BD rod
          clear ew
          go_wp2_with fail
          refine (HI.out _ vo _ rod (HT.out.below BD (by omega))).mono ?_
          rintro e wz ⟨rfl, bz⟩
          go_wp2
          go_ret
          exact ⟨by simp, BD.trans (bz.mono BD.size)⟩
    · have HC := Lib.hid (fun B B' v v' w => implGNamed_second B B' v v' L N h h' (by omega) w)
      have HS := Lib.hid (fun B B' v v' w => specGNamed_second B B' v v' L N h h' (by omega) w)
      clear h h'
      go_wp2_with fail
      refine (HC.out _ _ v v' _ r r' (HT.out.below b1 (by omega))).mono ?_
      rintro e w2 ⟨vd, rfl, rd0, bb2⟩
      have b2 := b1.trans (bb2.mono b1.size)
      have r_2 := r.below bb2
      have rm_2 := r'.below bb2
      go_wp2_with fail
      refine (HS.out _ _ v v' _ r_2 rm_2).mono ?_
      rintro e w3 ⟨vs, rfl, rs0, bb3⟩
      have b3 := b2.trans (bb3.mono b2.size)
      have r_3 := r_2.below bb3
      have rm_3 := rm_2.below bb3
      have rd_3 := rd0.below bb3
      go_wp2_with fail
      refine (sameI_yes _ _ vd vs [] _ rd_3 rs0 (by simp)).mono ?_
      rintro e w4 ⟨rfl, d4, rfl⟩
      have b4 := below_drewN b3 d4
      have r_4 := r_3.drewN d4
      have rm_4 := rm_3.drewN d4
      have rd_4 := rd_3.drewN d4
      have rs_4 := rs0.drewN d4
      go_wp2_with fail
      refine (sameI_yes _ _ vd vs [] _ rd_4 rs_4 (by simp)).mono ?_
      rintro e w5 ⟨rfl, d5, rfl⟩
      have b5 := below_drewN b4 d5
      have r_5 := r_4.drewN d5
      have rm_5 := rm_4.drewN d5
      have rd_5 := rd_4.drewN d5
      have rs_5 := rs_4.drewN d5
      go_wp2
      go_ret
      exact ⟨by simp, by simpa using b5⟩
  · have HC := Lib.hid (fun B B' v v' w => implGNamed_first B B' v v' L N h w)
    have HS := Lib.hid (fun B B' v v' w => specGNamed_first B B' v v' L N h w)
    clear h
    go_wp2_with fail
    refine (HC.out _ _ v v' _ r r' (HT.out.below b1 (by omega))).mono ?_
    rintro e w2 ⟨vd, rfl, rd0, bb2⟩
    have b2 := b1.trans (bb2.mono b1.size)
    have r_2 := r.below bb2
    have rm_2 := r'.below bb2
    go_wp2_with fail
    refine (HS.out _ _ v v' _ r_2 rm_2).mono ?_
    rintro e w3 ⟨vs, rfl, rs0, bb3⟩
    have b3 := b2.trans (bb3.mono b2.size)
    have r_3 := r_2.below bb3
    have rm_3 := rm_2.below bb3
    have rd_3 := rd0.below bb3
    go_wp2_with fail
    refine (sameI_yes _ _ vd vs [] _ rd_3 rs0 (by simp)).mono ?_
    rintro e w4 ⟨rfl, d4, rfl⟩
    have b4 := below_drewN b3 d4
    have r_4 := r_3.drewN d4
    have rm_4 := rm_3.drewN d4
    have rd_4 := rd_3.drewN d4
    have rs_4 := rs0.drewN d4
    go_wp2_with fail
    refine (sameI_yes _ _ vd vs [] _ rd_4 rs_4 (by simp)).mono ?_
    rintro e w5 ⟨rfl, d5, rfl⟩
    have b5 := below_drewN b4 d5
    have r_5 := r_4.drewN d5
    have rm_5 := rm_4.drewN d5
    have rd_5 := rd_4.drewN d5
    have rs_5 := rs_4.drewN d5
    go_wp2
    go_ret
    exact ⟨by simp, by simpa using b5⟩
end Go.Proofs.YtjkepoalepmjoaaDoor
