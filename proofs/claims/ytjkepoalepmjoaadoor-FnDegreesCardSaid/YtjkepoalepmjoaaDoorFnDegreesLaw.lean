/- The law FnDegrees returns true and leaves all that was there as it was, whatever list is drawn. -/
import Derived.Test.YtjkepoalepmjoaaDoorDrawSome
import Derived.Test.YtjkepoalepmjoaaDoorImplDegrees
import Derived.Test.YtjkepoalepmjoaaDoorDegrees
import Derived.Test.YtjkepoalepmjoaaDoorImplOther
import Derived.Test.YtjkepoalepmjoaaDoorSameInts
import Derived.Test.YtjkepoalepmjoaaDoorPromDeg
namespace Go.Proofs.YtjkepoalepmjoaaDoor
open Go Go.RowKit
set_option linter.unusedVariables false
set_option maxRecDepth 100000

set_option maxHeartbeats 800000 in
theorem fnDegrees_long (A : Option Addr) (n c : Nat) (w : World) (h : 1048576 < n) (hm : n ≤ maxLen) :
    Calls Tryd.prog 6 #[.slice A n c] w (Fine w) := by
  unfold maxLen at hm
  have hd : decide ((1048576 : Int) < (n : Int)) = true := by simp; omega
  go_enter Tryd.func6, Tryd.ntmps6
  go_wp2
  go_ret
  exact ⟨rfl, Below.refl _ _⟩

set_option maxHeartbeats 4000000 in
theorem fnDegrees_short (A : Option Addr) (n c : Nat) (w : World) (hs : n ≤ 1048576) (hT : Tab w)
    (hD : Calls Tryd.prog 27 #[.slice A n c] w (Drew6 w)) :
    Calls Tryd.prog 6 #[.slice A n c] w (Fine w) := by
  have h2 := hT.lt
  have hd : decide ((1048576 : Int) < (n : Int)) = false := by simp; omega
  have HD := Lib.hid hD
  have HT := Lib.hid hT
  clear hD hT hs
  go_enter Tryd.func6, Tryd.ntmps6
  go_wp2_with fail
  refine HD.out.mono ?_
  rintro e w1 ⟨v, L, rfl, l1, l6, r, b1⟩
  by_cases h : IsGraph L
  · have HC := Lib.hid (fun B v w => implGraphDegrees_yes B v L h w)
    have HS := Lib.hid (fun B v w => specGraphDegrees_yes B v L h w)
    have HO := Lib.hid (fun B v w => implGraphOther_yes B v L h w)
    have HC2 := Lib.hid (fun B v w => implGraphDegrees_yes B v (otherL L L.length) (other_graph h) w)
    have HDEG : Hid (∀ i, i < L.length → ∃ x y : Nat, (degL L L.length)[i]?.getD 0 = (x : Int) ∧ (degL (otherL L L.length) (otherL L L.length).length)[i]?.getD 0 = (y : Int) ∧ x + y = L.length - 1) := Lib.hid fun i hi => ⟨cnt (ent L i), cnt (ent (otherL L L.length) i), by simp [degL, hi], by rw [otherL_length]; simp [degL, hi], deg_other h hi⟩
    have hdl1 : (degL L L.length).length = L.length := degL_length _ _
    have hdl2 : (degL (otherL L L.length) (otherL L L.length).length).length = L.length := by rw [degL_length, otherL_length]
    obtain ⟨D, eD⟩ : ∃ D, D = degL L L.length := ⟨_, rfl⟩
    obtain ⟨E, eE⟩ : ∃ E, E = degL (otherL L L.length) (otherL L L.length).length := ⟨_, rfl⟩
    rw [← eD] at HC HS HDEG hdl1
    rw [← eE] at HC2 HDEG hdl2
    obtain ⟨M, eM⟩ : ∃ M, M = otherL L L.length := ⟨_, rfl⟩
    rw [← eM] at HO HC2
    have HL1 := Lib.hid hdl1
    have HL2 := Lib.hid hdl2
    clear h eD eE eM hdl1 hdl2
    go_wp2_with fail
    refine (HC.out _ v _ r (HT.out.below b1 (by omega))).mono ?_
    rintro e w2 ⟨vd, rfl, rd0, bb2⟩
    have b2 := b1.trans (bb2.mono b1.size)
    have r_2 := r.below bb2
    go_wp2_with fail
    refine (HS.out _ v _ r_2).mono ?_
    rintro e w3 ⟨vs, rfl, rs0, bb3⟩
    have b3 := b2.trans (bb3.mono b2.size)
    have r_3 := r_2.below bb3
    have rd_3 := rd0.below bb3
    go_wp2_with fail
    refine (sameI_yes _ _ vd vs D _ rd_3 rs0 (by have := HL1.out; omega)).mono ?_
    rintro e w4 ⟨rfl, d4, rfl⟩
    have b4 := below_drewN b3 d4
    have r_4 := r_3.drewN d4
    have rd_4 := rd_3.drewN d4
    have rs_4 := rs0.drewN d4
    go_wp2_with fail
    refine (HO.out _ v _ r_4 (HT.out.below b4 (by omega))).mono ?_
    rintro e w5 ⟨vo, rfl, ro0, bb5⟩
    have b5 := b4.trans (bb5.mono b4.size)
    have r_5 := r_4.below bb5
    have rd_5 := rd_4.below bb5
    have rs_5 := rs_4.below bb5
    go_wp2_with fail
    refine (HC2.out _ vo _ ro0 (HT.out.below b5 (by omega))).mono ?_
    rintro e w6 ⟨ve, rfl, re0, bb6⟩
    have b6 := b5.trans (bb6.mono b5.size)
    have r_6 := r_5.below bb6
    have rd_6 := rd_5.below bb6
    have rs_6 := rs_5.below bb6
    have ro_6 := ro0.below bb6
    obtain ⟨A1, c1, rfl, _⟩ := r_6.seen
    obtain ⟨A2, c2, rfl, s2⟩ := rd_6.seen
    obtain ⟨A3, c3, rfl, s3⟩ := re0.seen
    have hl1 := HL1.out
    have hl2 := HL2.out
    obtain ⟨m, em⟩ : ∃ m, m = L.length := ⟨_, rfl⟩
    rw [← em] at hl1 hl2 l1 l6
    rw [hl1, hl2, ← em]
    have EM := Lib.hid em
    have S2 := Lib.hid s2
    have S3 := Lib.hid s3
    have H1 := Lib.hid hl1
    have H2 := Lib.hid hl2
    have BB := Lib.hid b6
    clear s2 s3 em hl1 hl2
    obtain ⟨W0, eW0⟩ : ∃ W0, W0 = w6 := ⟨_, rfl⟩
    rw [← eW0] at S2 S3 BB ⊢
    clear eW0
    go_wp2
    go_loopw [12] (fun i wr => ∃ k d : Nat, k ≤ m ∧ i = .int .i64 k ∧ wr = W0.drewN d) (fun i _ => m - (intOf i).toNat)
    case atStart => exact ⟨0, 0, Nat.zero_le _, rfl, rfl⟩
    case round =>
      obtain ⟨k, d, hk, rfl, ew⟩ := hrel
      have EW := Lib.hid ew
      by_cases hlt : k < m
      · obtain ⟨x, y, hx, hy, hxy⟩ := HDEG.out k (by rw [← EM.out]; exact hlt)
        obtain ⟨g2, o2, rfl, _, q2⟩ := S2.out k (by rw [H1.out]; exact hlt)
        obtain ⟨g3, o3, rfl, _, q3⟩ := S3.out k (by rw [H2.out]; exact hlt)
        rw [hx] at q2
        rw [hy] at q3
        rw [← EM.out] at hxy
        have p2 : wr.cell? ⟨g2, o2 + k, none⟩ = some (.int .i64 x) := by rw [ew]; exact q2
        have p3 : wr.cell? ⟨g3, o3 + k, none⟩ = some (.int .i64 y) := by rw [ew]; exact q3
        have hi : (0 : Int) ≤ (k : Int) ∧ (k : Int) < (m : Int) := by omega
        have hs : (x : Int) + (y : Int) = (m : Int) - 1 := by omega
        have hge : decide ((m : Int) ≤ (k : Int)) = false := by simp; omega
        have hb : x ≤ 6 ∧ y ≤ 6 := by omega
        clear ew q2 q3 hx hy hxy
        go_wp2
        go_quiet (fail)
        go_wp2
        exact ⟨⟨k + 1, d + _, by omega, congrArg (Value.int .i64) (by omega), by rw [EW.out, World.drewN_drewN]⟩, by simp [intOf]; omega⟩
      · have hkm : m = k := by omega
        subst hkm
        clear ew
        go_wp2
        go_ret
        exact ⟨by simp, by rw [EW.out]; exact below_drewN BB.out d⟩
  · have HC := Lib.hid (fun B v w => implGraphDegrees_no B v L h w)
    have HS := Lib.hid (fun B v w => specGraphDegrees_no B v L h w)
    clear h
    go_wp2_with fail
    refine (HC.out _ v _ r (HT.out.below b1 (by omega))).mono ?_
    rintro e w2 ⟨vd, rfl, rd0, bb2⟩
    have b2 := b1.trans (bb2.mono b1.size)
    have r_2 := r.below bb2
    go_wp2_with fail
    refine (HS.out _ v _ r_2).mono ?_
    rintro e w3 ⟨vs, rfl, rs0, bb3⟩
    have b3 := b2.trans (bb3.mono b2.size)
    have r_3 := r_2.below bb3
    have rd_3 := rd0.below bb3
    go_wp2_with fail
    refine (sameI_yes _ _ vd vs [] _ rd_3 rs0 (by simp)).mono ?_
    rintro e w4 ⟨rfl, d4, rfl⟩
    have b4 := below_drewN b3 d4
    have r_4 := r_3.drewN d4
    have rd_4 := rd_3.drewN d4
    have rs_4 := rs0.drewN d4
    go_wp2_with fail
    refine (sameI_yes _ _ vd vs [] _ rd_4 rs_4 (by simp)).mono ?_
    rintro e w5 ⟨rfl, d5, rfl⟩
    have b5 := below_drewN b4 d5
    have r_5 := r_4.drewN d5
    have rd_5 := rd_4.drewN d5
    have rs_5 := rs_4.drewN d5
    go_wp2
    go_ret
    exact ⟨by simp, by simpa using b5⟩
end Go.Proofs.YtjkepoalepmjoaaDoor
