/- The law FnCounts returns true and leaves all that was there as it was, whatever list is drawn. -/
import Derived.Test.YtfhaeocgbihddaaDoorBaseF
import Derived.Test.YtfhaeocgbihddaaDoorCountsFns
import Derived.Test.YtfhaeocgbihddaaDoorBaseS
import Derived.Test.YtfhaeocgbihddaaDoorImplEdges
import Derived.Test.YtfhaeocgbihddaaDoorSameInts
import Derived.Test.YtfhaeocgbihddaaDoorPromCounts
namespace Go.Proofs.YtfhaeocgbihddaaDoor
open Go Go.RowKit
set_option linter.unusedVariables false
set_option maxRecDepth 100000

set_option maxHeartbeats 800000 in
theorem fnCounts_long (A : Option Addr) (n c : Nat) (w : World) (h : 1048576 < n) (hm : n ≤ maxLen) :
    Calls Tryd.prog 7 #[.slice A n c] w (Fine w) := by
  unfold maxLen at hm
  have hd : decide ((1048576 : Int) < (n : Int)) = true := by simp; omega
  go_enter Tryd.func7, Tryd.ntmps7
  go_wp2
  go_ret
  exact ⟨rfl, Below.refl _ _⟩

set_option maxHeartbeats 4000000 in
theorem fnCounts_short (A : Option Addr) (n c : Nat) (w : World) (hs : n ≤ 1048576) (hT : Tab w)
    (hD : Calls Tryd.prog 24 #[.slice A n c] w (Drew6 w)) :
    Calls Tryd.prog 7 #[.slice A n c] w (Fine w) := by
  have h2 := hT.lt
  have hd : decide ((1048576 : Int) < (n : Int)) = false := by simp; omega
  have HD := Lib.hid hD
  have HT := Lib.hid hT
  clear hD hT hs
  go_enter Tryd.func7, Tryd.ntmps7
  go_wp2_with fail
  refine HD.out.mono ?_
  rintro e w1 ⟨v, L, rfl, l1, l6, r, b1⟩
  by_cases h : IsGraph L
  · have HI := Lib.hid (fun B v w => implCn_yes B v L h w)
    have HS := Lib.hid (fun B v w => specCn_yes B v L h w)
    have HF := Lib.hid (fun B v w => implFr_yes B v L h w)
    have HE := Lib.hid (fun B v w => implGraphEdges_yes B v L h w)
    have hx := edgesN_le L
    have q4 : mostN L ≤ 15 := mx_le _ _
    obtain ⟨q1, q5, q6, q7⟩ := counts_first h
    have hkl : (countsL L).length = mostN L + 1 := by unfold countsL; rw [ints_length, cntR_length]
    have k0 : (countsL L)[0]?.getD 0 = 1 := by unfold countsL; rw [ints_get, q5]; rfl
    have k1 : (countsL L)[1]?.getD 0 = (L.length : Int) := by unfold countsL; rw [ints_get, q6]
    have k2 : 2 ≤ mostN L → ∃ z : Nat, (countsL L)[2]?.getD 0 = (z : Int) ∧ z + edgesN L = L.length * (L.length - 1) / 2 := fun h2 => ⟨_, by unfold countsL; rw [ints_get], q7 h2⟩
    obtain ⟨K, eK⟩ : ∃ K, K = countsL L := ⟨_, rfl⟩
    rw [← eK] at HI HS hkl k0 k1 k2
    obtain ⟨f, ef⟩ : ∃ f, f = mostN L := ⟨_, rfl⟩
    rw [← ef] at HF hkl q1 q4 k2
    obtain ⟨m, em⟩ : ∃ m, m = edgesN L := ⟨_, rfl⟩
    rw [← em] at HE hx k2
    have HQ := Lib.hid (And.intro hkl (And.intro k0 (And.intro k1 k2)))
    have HL := Lib.hid (show K.length ≤ 1048576 by omega)
    have hb : m ≤ 15 ∧ f ≤ 15 ∧ 1 ≤ f := by omega
    clear h eK ef em q1 q4 q5 q6 q7 hkl k0 k1 k2 hx
    go_wp2_with fail
    refine (HI.out _ v _ r (HT.out.below b1 (by omega))).mono ?_
    rintro e w2 ⟨vx, rfl, rx0, bb2⟩
    have b2 := b1.trans (bb2.mono b1.size)
    have r_2 := r.below bb2
    go_wp2_with fail
    refine (HS.out _ v _ r_2).mono ?_
    rintro e w3 ⟨vy, rfl, ry0, bb3⟩
    have b3 := b2.trans (bb3.mono b2.size)
    have r_3 := r_2.below bb3
    have rx_3 := rx0.below bb3
    go_wp2_with fail
    refine (sameI_yes _ _ vx vy K _ rx_3 ry0 HL.out).mono ?_
    rintro e w4 ⟨rfl, d4, rfl⟩
    have b4 := below_drewN b3 d4
    have r_4 := r_3.drewN d4
    have rx_4 := rx_3.drewN d4
    have ry_4 := ry0.drewN d4
    go_wp2_with fail
    refine (HF.out _ v _ r_4 (HT.out.below b4 (by omega))).mono ?_
    rintro e w5 ⟨rfl, bb5⟩
    have b5 := b4.trans (bb5.mono b4.size)
    have r_5 := r_4.below bb5
    have rx_5 := rx_4.below bb5
    have ry_5 := ry_4.below bb5
    go_wp2_with fail
    refine (HE.out _ v _ r_5 (HT.out.below b5 (by omega))).mono ?_
    rintro e w6 ⟨rfl, bb6⟩
    have b6 := b5.trans (bb6.mono b5.size)
    have r_6 := r_5.below bb6
    have rx_6 := rx_5.below bb6
    have ry_6 := ry_5.below bb6
    obtain ⟨A1, c1, rfl, _⟩ := r_6.seen
    obtain ⟨A2, c2, rfl, s2⟩ := rx_6.seen
    obtain ⟨hkl, k0, k1, k2⟩ := HQ.out
    obtain ⟨b0, o0, rfl, _, x0⟩ := s2 0 (by omega)
    obtain ⟨b1', o1', ea1, _, x1⟩ := s2 1 (by omega)
    injection ea1 with ea1
    injection ea1 with ea1 ea2
    subst ea1 ea2
    rw [k0] at x0
    rw [k1] at x1
    rw [Nat.add_zero] at x0
    rw [hkl]
    have BB := Lib.hid b6
    obtain ⟨W0, eW0⟩ : ∃ W0, W0 = w6 := ⟨_, rfl⟩
    rw [← eW0] at x0 x1 s2 BB ⊢
    clear eW0
    by_cases hf2 : f < 2
    · have hf : f = 1 := by omega
      subst hf
      clear HQ k0 k1 k2 s2 hkl
      go_wp2
      all_goals first | (go_ret; exact ⟨by simp, BB.out⟩) | (exfalso; omega)
    · obtain ⟨z, z1, z2⟩ := k2 (by omega)
      obtain ⟨b2', o2', ea1, _, x2⟩ := s2 2 (by omega)
      injection ea1 with ea1
      injection ea1 with ea1 ea2
      subst ea1 ea2
      rw [z1] at x2
      have hn6 : L.length = 1 ∨ L.length = 2 ∨ L.length = 3 ∨ L.length = 4 ∨ L.length = 5 ∨ L.length = 6 := by omega
      have hlt : decide ((f : Int) < 2) = false := by simp; omega
      have hi2 : (2 : Int) < (f : Int) + 1 := by omega
      obtain ⟨nn, enn⟩ : ∃ nn, nn = L.length := ⟨_, rfl⟩
      rw [← enn] at z2 x1 hn6 ⊢
      clear HQ k0 k1 k2 s2 hkl z1 enn
      rcases hn6 with rfl | rfl | rfl | rfl | rfl | rfl
      · have hz : (z : Int) + (m : Int) = 0 := by simp at z2; omega
        clear z2
        go_wp2
        all_goals first | (go_ret; exact ⟨by simp; omega, BB.out⟩) | (go_ret; exact ⟨by simp, BB.out⟩) | (exfalso; omega)
      · have hz : (z : Int) + (m : Int) = 1 := by simp at z2; omega
        clear z2
        go_wp2
        all_goals first | (go_ret; exact ⟨by simp; omega, BB.out⟩) | (go_ret; exact ⟨by simp, BB.out⟩) | (exfalso; omega)
      · have hz : (z : Int) + (m : Int) = 3 := by simp at z2; omega
        clear z2
        go_wp2
        all_goals first | (go_ret; exact ⟨by simp; omega, BB.out⟩) | (go_ret; exact ⟨by simp, BB.out⟩) | (exfalso; omega)
      · have hz : (z : Int) + (m : Int) = 6 := by simp at z2; omega
        clear z2
        go_wp2
        all_goals first | (go_ret; exact ⟨by simp; omega, BB.out⟩) | (go_ret; exact ⟨by simp, BB.out⟩) | (exfalso; omega)
      · have hz : (z : Int) + (m : Int) = 10 := by simp at z2; omega
        clear z2
        go_wp2
        all_goals first | (go_ret; exact ⟨by simp; omega, BB.out⟩) | (go_ret; exact ⟨by simp, BB.out⟩) | (exfalso; omega)
      · have hz : (z : Int) + (m : Int) = 15 := by simp at z2; omega
        clear z2
        go_wp2
        all_goals first | (go_ret; exact ⟨by simp; omega, BB.out⟩) | (go_ret; exact ⟨by simp, BB.out⟩) | (exfalso; omega)
  · have HI := Lib.hid (fun B v w => implCn_no B v L h w)
    have HS := Lib.hid (fun B v w => specCn_no B v L h w)
    clear h
    go_wp2_with fail
    refine (HI.out _ v _ r (HT.out.below b1 (by omega))).mono ?_
    rintro e w2 ⟨vx, rfl, rx0, bb2⟩
    have b2 := b1.trans (bb2.mono b1.size)
    have r_2 := r.below bb2
    go_wp2_with fail
    refine (HS.out _ v _ r_2).mono ?_
    rintro e w3 ⟨vy, rfl, ry0, bb3⟩
    have b3 := b2.trans (bb3.mono b2.size)
    have r_3 := r_2.below bb3
    have rx_3 := rx0.below bb3
    go_wp2_with fail
    refine (sameI_yes _ _ vx vy [] _ rx_3 ry0 (by simp)).mono ?_
    rintro e w4 ⟨rfl, d4, rfl⟩
    have b4 := below_drewN b3 d4
    have r_4 := r_3.drewN d4
    have rx_4 := rx_3.drewN d4
    have ry_4 := ry0.drewN d4
    go_wp2_with fail
    refine (sameI_yes _ _ vx vy [] _ rx_4 ry_4 (by simp)).mono ?_
    rintro e w5 ⟨rfl, d5, rfl⟩
    have b5 := below_drewN b4 d5
    have r_5 := r_4.drewN d5
    have rx_5 := rx_4.drewN d5
    have ry_5 := ry_4.drewN d5
    go_wp2
    go_ret
    exact ⟨by simp, by simpa using b5⟩
end Go.Proofs.YtfhaeocgbihddaaDoor
