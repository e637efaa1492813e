/- The law FnPart returns true and leaves all that was there as it was, whatever is drawn. -/
import Derived.Test.YtjkepoalepmjoaaDoorBaseD
import Derived.Test.YtjkepoalepmjoaaDoorBaseN
import Derived.Test.YtjkepoalepmjoaaDoorBaseM
import Derived.Test.YtjkepoalepmjoaaDoorPromPart
namespace Go.Proofs.YtjkepoalepmjoaaDoor
open Go Go.RowKit
set_option linter.unusedVariables false
set_option maxRecDepth 100000

theorem nodes_some {s : Nat} (h : 1 ≤ s) (hs : s < 64) : 1 ≤ (nodesL s).length := by
  have h1 : ∀ s : Fin 64, 1 ≤ s.val → 1 ≤ (nodesL s.val).length := by decide +kernel
  exact h1 ⟨s, hs⟩ h
set_option maxHeartbeats 800000 in
theorem fnPart_long (A : Option Addr) (n c : Nat) (w : World) (h : 1048576 < n) (hm : n ≤ maxLen) :
    Calls Tryd.prog 10 #[.slice A n c] w (Fine w) := by
  unfold maxLen at hm
  have hd : decide ((1048576 : Int) < (n : Int)) = true := by simp; omega
  go_enter Tryd.func10, Tryd.ntmps10
  go_wp2
  go_ret
  exact ⟨rfl, Below.refl _ _⟩

set_option maxHeartbeats 4000000 in
theorem fnPart_short (A : Option Addr) (n c : Nat) (w : World) (hs : n ≤ 1048576) (hT : Tab w)
    (hD : Calls Tryd.prog 38 #[.slice A n c] w (DrewZ w)) :
    Calls Tryd.prog 10 #[.slice A n c] w (Fine w) := by
  have h2 := hT.lt
  have hd : decide ((1048576 : Int) < (n : Int)) = false := by simp; omega
  have HD := Lib.hid hD
  have HT := Lib.hid hT
  clear hD hT hs
  go_enter Tryd.func10, Tryd.ntmps10
  go_wp2_with fail
  refine HD.out.mono ?_
  rintro e w1 ⟨v, L, z, rfl, l1, l6, z1, z2, r, b1⟩
  by_cases h : IsGraph L
  · by_cases hz : 1 ≤ z ∧ z < ((2 ^ L.length : Nat) : Int)
    · obtain ⟨s, rfl⟩ : ∃ s : Nat, z = (s : Int) := ⟨z.toNat, by omega⟩
      have hs1 : 1 ≤ s := by omega
      have hs : s < 2 ^ L.length := by omega
      have HC := Lib.hid (fun B v w => implGPart_good B v L s h hs1 hs w)
      have HS := Lib.hid (fun B v w => specGPart_good B v L s h hs1 hs w)
      rw [← partG_eq h hs] at HC HS
      have HE := Lib.hid (fun B v w => implGraphEdges_yes B v L h w)
      have hnp : 1 ≤ (nodesL s).length := nodes_some hs1 (Nat.lt_of_lt_of_le hs (two_le l6))
      have HE2 := Lib.hid (fun B v w => implGraphEdges_yes B v (partG L s) (partG_graph h hs hnp) w)
      have hle := part_le h hs
      have hxl := edgesN_le L
      have hml : (partG L s).length ≤ 6 := by rw [partG_length]; have := nodes_length s; omega
      have hfull : s = 2 ^ L.length - 1 → partG L s = L := fun e => by rw [e]; exact part_full h
      obtain ⟨P, Q, hP, hQ, hP64, s1, s2, s3, s4, s5⟩ := shl_facts L.length l6
      obtain ⟨M, eM⟩ : ∃ M, M = partG L s := ⟨_, rfl⟩
      rw [← eM] at HC HS HE2 hml hfull hle
      obtain ⟨x, ex⟩ : ∃ x, x = edgesN L := ⟨_, rfl⟩
      rw [← ex] at HE hle hxl
      obtain ⟨y, ey⟩ : ∃ y, y = edgesN M := ⟨_, rfl⟩
      rw [← ey] at HE2 hle
      have hsQ : s = Q → M = L := fun e => hfull (by omega)
      have HSQ := Lib.hid hsQ
      clear h hfull eM ex ey hz hs hnp hP hsQ
      go_wp2_with fail
      refine (HC.out _ v _ r (HT.out.below b1 (by omega))).mono ?_
      rintro e w2 ⟨vo, rfl, ro0, bb2⟩
      have b2 := b1.trans (bb2.mono b1.size)
      have r_2 := r.below bb2
      go_wp2_with fail
      refine (HS.out _ v _ r_2).mono ?_
      rintro e w3 ⟨vt, rfl, rt0, bb3⟩
      have b3 := b2.trans (bb3.mono b2.size)
      have r_3 := r_2.below bb3
      have ro_3 := ro0.below bb3
      go_wp2_with fail
      refine (sameI_yes _ _ vo vt M _ ro_3 rt0 (by omega)).mono ?_
      rintro e w4 ⟨rfl, d4, rfl⟩
      have b4 := below_drewN b3 d4
      have r_4 := r_3.drewN d4
      have ro_4 := ro_3.drewN d4
      have rt_4 := rt0.drewN d4
      go_wp2_with fail
      refine (HE.out _ v _ r_4 (HT.out.below b4 (by omega))).mono ?_
      rintro e w5 ⟨rfl, bb5⟩
      have b5 := b4.trans (bb5.mono b4.size)
      have r_5 := r_4.below bb5
      have ro_5 := ro_4.below bb5
      have rt_5 := rt_4.below bb5
      go_wp2_with fail
      refine (HE2.out _ vo _ ro_5 (HT.out.below b5 (by omega))).mono ?_
      rintro e w6 ⟨rfl, bb6⟩
      have b6 := b5.trans (bb6.mono b5.size)
      have r_6 := r_5.below bb6
      have ro_6 := ro_5.below bb6
      have rt_6 := rt_5.below bb6
      obtain ⟨A1, c1, rfl, _⟩ := r_6.seen
      have hd1 : decide ((y : Int) ≤ (x : Int)) = true := by simp; omega
      by_cases hsq : s = Q
      · have hml2 := HSQ.out hsq
        rw [hml2] at ro_6
        have hb1 : ((s : Int) != (Q : Int)) = false := by simp [hsq]
        clear hsq
        go_wp2_with fail
        refine (sameI_yes _ _ vo _ L _ ro_6 r_6 (by omega)).mono ?_
        rintro e w7 ⟨rfl, d7, rfl⟩
        have b7 := below_drewN b6 d7
        have r_7 := r_6.drewN d7
        have ro_7 := ro_6.drewN d7
        have rt_7 := rt_6.drewN d7
        go_wp2
        go_ret
        exact ⟨by simp, b7⟩
      · have hb1 : ((s : Int) != (Q : Int)) = true := by simp; omega
        clear hsq
        go_wp2
        go_ret
        exact ⟨by simp, b6⟩
    · have HC := Lib.hid (fun B v w => implGPart_bad B v L z h hz w)
      have HS := Lib.hid (fun B v w => specGPart_bad B v L z h hz w)
      clear h hz
      go_wp2_with fail
      refine (HC.out _ v _ r (HT.out.below b1 (by omega))).mono ?_
      rintro e w2 ⟨vd, rfl, rd0, bb2⟩
      have b2 := b1.trans (bb2.mono b1.size)
      have r_2 := r.below bb2
      go_wp2_with fail
      refine (HS.out _ v _ r_2).mono ?_
      rintro e w3 ⟨vs, rfl, rs0, bb3⟩
      have b3 := b2.trans (bb3.mono b2.size)
      have r_3 := r_2.below bb3
      have rd_3 := rd0.below bb3
      go_wp2_with fail
      refine (sameI_yes _ _ vd vs [] _ rd_3 rs0 (by simp)).mono ?_
      rintro e w4 ⟨rfl, d4, rfl⟩
      have b4 := below_drewN b3 d4
      have r_4 := r_3.drewN d4
      have rd_4 := rd_3.drewN d4
      have rs_4 := rs0.drewN d4
      go_wp2_with fail
      refine (sameI_yes _ _ vd vs [] _ rd_4 rs_4 (by simp)).mono ?_
      rintro e w5 ⟨rfl, d5, rfl⟩
      have b5 := below_drewN b4 d5
      have r_5 := r_4.drewN d5
      have rd_5 := rd_4.drewN d5
      have rs_5 := rs_4.drewN d5
      go_wp2
      go_ret
      exact ⟨by simp, by simpa using b5⟩
  · have HC := Lib.hid (fun B v w => implGPart_none B v L z h w)
    have HS := Lib.hid (fun B v w => specGPart_none B v L z h w)
    clear h
    go_wp2_with fail
    refine (HC.out _ v _ r (HT.out.below b1 (by omega))).mono ?_
    rintro e w2 ⟨vd, rfl, rd0, bb2⟩
    have b2 := b1.trans (bb2.mono b1.size)
    have r_2 := r.below bb2
    go_wp2_with fail
    refine (HS.out _ v _ r_2).mono ?_
    rintro e w3 ⟨vs, rfl, rs0, bb3⟩
    have b3 := b2.trans (bb3.mono b2.size)
    have r_3 := r_2.below bb3
    have rd_3 := rd0.below bb3
    go_wp2_with fail
    refine (sameI_yes _ _ vd vs [] _ rd_3 rs0 (by simp)).mono ?_
    rintro e w4 ⟨rfl, d4, rfl⟩
    have b4 := below_drewN b3 d4
    have r_4 := r_3.drewN d4
    have rd_4 := rd_3.drewN d4
    have rs_4 := rs0.drewN d4
    go_wp2_with fail
    refine (sameI_yes _ _ vd vs [] _ rd_4 rs_4 (by simp)).mono ?_
    rintro e w5 ⟨rfl, d5, rfl⟩
    have b5 := below_drewN b4 d5
    have r_5 := r_4.drewN d5
    have rd_5 := rd_4.drewN d5
    have rs_5 := rs_4.drewN d5
    go_wp2
    go_ret
    exact ⟨by simp, by simpa using b5⟩
end Go.Proofs.YtjkepoalepmjoaaDoor
