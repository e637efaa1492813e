/- The law FnDrop returns true and leaves all that was there as it was, whatever is drawn. -/
import Derived.Test.YtjkepoalepmjoaaDoorBaseD
import Derived.Test.YtjkepoalepmjoaaDoorBaseN
import Derived.Test.YtjkepoalepmjoaaDoorBaseM
import Derived.Test.YtjkepoalepmjoaaDoorPromPart
namespace Go.Proofs.YtjkepoalepmjoaaDoor
open Go Go.RowKit
set_option linter.unusedVariables false
set_option maxRecDepth 100000

set_option maxHeartbeats 800000 in
theorem fnDrop_long (A : Option Addr) (n c : Nat) (w : World) (h : 1048576 < n) (hm : n ≤ maxLen) :
    Calls Tryd.prog 9 #[.slice A n c] w (Fine w) := by
  unfold maxLen at hm
  have hd : decide ((1048576 : Int) < (n : Int)) = true := by simp; omega
  go_enter Tryd.func9, Tryd.ntmps9
  go_wp2
  go_ret
  exact ⟨rfl, Below.refl _ _⟩

set_option maxHeartbeats 4000000 in
theorem fnDrop_short (A : Option Addr) (n c : Nat) (w : World) (hs : n ≤ 1048576) (hT : Tab w)
    (hD : Calls Tryd.prog 35 #[.slice A n c] w (DrewZ w)) :
    Calls Tryd.prog 9 #[.slice A n c] w (Fine w) := by
  have h2 := hT.lt
  have hd : decide ((1048576 : Int) < (n : Int)) = false := by simp; omega
  have HD := Lib.hid hD
  have HT := Lib.hid hT
  clear hD hT hs
  go_enter Tryd.func9, Tryd.ntmps9
  go_wp2_with fail
  refine HD.out.mono ?_
  rintro e w1 ⟨v, L, z, rfl, l1, l6, z1, z2, r, b1⟩
  by_cases h : IsGraph L
  · by_cases hz : L.length ≠ 1 ∧ 0 ≤ z ∧ z < (L.length : Int)
    · obtain ⟨s, rfl⟩ : ∃ s : Nat, z = (s : Int) := ⟨z.toNat, by omega⟩
      have hs : s < L.length := by omega
      have h2n : 2 ≤ L.length := by omega
      have HC := Lib.hid (fun B v w => implGDrop_good B v L s h hz.1 hs w)
      have HS := Lib.hid (fun B v w => specGDrop_good B v L s h hz.1 hs w)
      have hpe : ints (partTo L (nodesL (but L.length s)) (nodesL (but L.length s)).length) = dropG L s := (partG_eq h (dropSet_lt l6 hs)).symm
      rw [hpe] at HC HS
      have HE := Lib.hid (fun B v w => implGraphEdges_yes B v L h w)
      have HD := Lib.hid (fun B v w => implGraphDegrees_yes B v L h w)
      have HE2 := Lib.hid (fun B v w => implGraphEdges_yes B v (dropG L s) (dropG_graph h h2n hs) w)
      have hdd := drop_deg h hs
      have hxl := edgesN_le L
      have hml := dropG_length h hs
      have hdeg : (degL L L.length)[s]?.getD 0 = ((cnt (ent L s) : Nat) : Int) := by simp [degL, hs]
      have hdl : (degL L L.length).length = L.length := degL_length _ _
      obtain ⟨M, eM⟩ : ∃ M, M = dropG L s := ⟨_, rfl⟩
      rw [← eM] at HC HS HE2 hml hdd
      obtain ⟨E, eE⟩ : ∃ E, E = degL L L.length := ⟨_, rfl⟩
      rw [← eE] at HD hdeg hdl
      obtain ⟨x, ex⟩ : ∃ x, x = edgesN L := ⟨_, rfl⟩
      rw [← ex] at HE hdd hxl
      obtain ⟨y, ey⟩ : ∃ y, y = edgesN M := ⟨_, rfl⟩
      rw [← ey] at HE2 hdd
      obtain ⟨dg, edg⟩ : ∃ dg, dg = cnt (ent L s) := ⟨_, rfl⟩
      rw [← edg] at hdd hdeg
      have HDG := Lib.hid hdeg
      have HDL := Lib.hid hdl
      have HML := Lib.hid hml
      clear h eM eE ex ey edg hz hdeg hdl hpe hml
      go_wp2_with fail
      refine (HC.out _ v _ r (HT.out.below b1 (by omega))).mono ?_
      rintro e w2 ⟨vo, rfl, ro0, bb2⟩
      have b2 := b1.trans (bb2.mono b1.size)
      have r_2 := r.below bb2
      go_wp2_with fail
      refine (HS.out _ v _ r_2).mono ?_
      rintro e w3 ⟨vt, rfl, rt0, bb3⟩
      have b3 := b2.trans (bb3.mono b2.size)
      have r_3 := r_2.below bb3
      have ro_3 := ro0.below bb3
      go_wp2_with fail
      refine (sameI_yes _ _ vo vt M _ ro_3 rt0 (by have := HML.out; omega)).mono ?_
      rintro e w4 ⟨rfl, d4, rfl⟩
      have b4 := below_drewN b3 d4
      have r_4 := r_3.drewN d4
      have ro_4 := ro_3.drewN d4
      have rt_4 := rt0.drewN d4
      go_wp2_with fail
      refine (HD.out _ v _ r_4 (HT.out.below b4 (by omega))).mono ?_
      rintro e w5 ⟨vd, rfl, rd0, bb5⟩
      have b5 := b4.trans (bb5.mono b4.size)
      have r_5 := r_4.below bb5
      have ro_5 := ro_4.below bb5
      have rt_5 := rt_4.below bb5
      go_wp2_with fail
      refine (HE.out _ v _ r_5 (HT.out.below b5 (by omega))).mono ?_
      rintro e w6 ⟨rfl, bb6⟩
      have b6 := b5.trans (bb6.mono b5.size)
      have r_6 := r_5.below bb6
      have ro_6 := ro_5.below bb6
      have rt_6 := rt_5.below bb6
      have rd_6 := rd0.below bb6
      go_wp2_with fail
      refine (HE2.out _ vo _ ro_6 (HT.out.below b6 (by omega))).mono ?_
      rintro e w7 ⟨rfl, bb7⟩
      have b7 := b6.trans (bb7.mono b6.size)
      have r_7 := r_6.below bb7
      have ro_7 := ro_6.below bb7
      have rt_7 := rt_6.below bb7
      have rd_7 := rd_6.below bb7
      obtain ⟨A1, c1, rfl, _⟩ := r_7.seen
      obtain ⟨A2, c2, rfl, _⟩ := ro_7.seen
      obtain ⟨A3, c3, rfl, s3⟩ := rd_7.seen
      obtain ⟨g3, o3, rfl, _, q3⟩ := s3 s (by rw [HDL.out]; exact hs)
      rw [HDG.out] at q3
      rw [HML.out, HDL.out]
      have BB := Lib.hid b7
      obtain ⟨m, em⟩ : ∃ m, m = L.length := ⟨_, rfl⟩
      rw [← em] at l1 l6 hs h2n ⊢
      have hlm : ((m - 1 : Nat) : Int) = (m : Int) - 1 := by omega
      have hxy : (x : Int) - (y : Int) = (dg : Int) := by omega
      have hi : (0 : Int) ≤ (s : Int) ∧ (s : Int) < (m : Int) := by omega
      obtain ⟨W0, eW0⟩ : ∃ W0, W0 = w7 := ⟨_, rfl⟩
      rw [← eW0] at q3 BB ⊢
      clear em eW0 s3
      go_wp2
      go_ret
      exact ⟨by simp [show (y : Int) + (dg : Int) - (y : Int) = (dg : Int) by omega], BB.out⟩
    · have HC := Lib.hid (fun B v w => implGDrop_bad B v L z h hz w)
      have HS := Lib.hid (fun B v w => specGDrop_bad B v L z h hz w)
      clear h hz
      go_wp2_with fail
      refine (HC.out _ v _ r (HT.out.below b1 (by omega))).mono ?_
      rintro e w2 ⟨vd, rfl, rd0, bb2⟩
      have b2 := b1.trans (bb2.mono b1.size)
      have r_2 := r.below bb2
      go_wp2_with fail
      refine (HS.out _ v _ r_2).mono ?_
      rintro e w3 ⟨vs, rfl, rs0, bb3⟩
      have b3 := b2.trans (bb3.mono b2.size)
      have r_3 := r_2.below bb3
      have rd_3 := rd0.below bb3
      go_wp2_with fail
      refine (sameI_yes _ _ vd vs [] _ rd_3 rs0 (by simp)).mono ?_
      rintro e w4 ⟨rfl, d4, rfl⟩
      have b4 := below_drewN b3 d4
      have r_4 := r_3.drewN d4
      have rd_4 := rd_3.drewN d4
      have rs_4 := rs0.drewN d4
      go_wp2_with fail
      refine (sameI_yes _ _ vd vs [] _ rd_4 rs_4 (by simp)).mono ?_
      rintro e w5 ⟨rfl, d5, rfl⟩
      have b5 := below_drewN b4 d5
      have r_5 := r_4.drewN d5
      have rd_5 := rd_4.drewN d5
      have rs_5 := rs_4.drewN d5
      go_wp2
      go_ret
      exact ⟨by simp, by simpa using b5⟩
  · have HC := Lib.hid (fun B v w => implGDrop_none B v L z h w)
    have HS := Lib.hid (fun B v w => specGDrop_none B v L z h w)
    clear h
    go_wp2_with fail
    refine (HC.out _ v _ r (HT.out.below b1 (by omega))).mono ?_
    rintro e w2 ⟨vd, rfl, rd0, bb2⟩
    have b2 := b1.trans (bb2.mono b1.size)
    have r_2 := r.below bb2
    go_wp2_with fail
    refine (HS.out _ v _ r_2).mono ?_
    rintro e w3 ⟨vs, rfl, rs0, bb3⟩
    have b3 := b2.trans (bb3.mono b2.size)
    have r_3 := r_2.below bb3
    have rd_3 := rd0.below bb3
    go_wp2_with fail
    refine (sameI_yes _ _ vd vs [] _ rd_3 rs0 (by simp)).mono ?_
    rintro e w4 ⟨rfl, d4, rfl⟩
    have b4 := below_drewN b3 d4
    have r_4 := r_3.drewN d4
    have rd_4 := rd_3.drewN d4
    have rs_4 := rs0.drewN d4
    go_wp2_with fail
    refine (sameI_yes _ _ vd vs [] _ rd_4 rs_4 (by simp)).mono ?_
    rintro e w5 ⟨rfl, d5, rfl⟩
    have b5 := below_drewN b4 d5
    have r_5 := r_4.drewN d5
    have rd_5 := rd_4.drewN d5
    have rs_5 := rs_4.drewN d5
    go_wp2
    go_ret
    exact ⟨by simp, by simpa using b5⟩
end Go.Proofs.YtjkepoalepmjoaaDoor
