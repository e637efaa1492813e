/- The law FnPoly returns true and leaves all that was there as it was, whatever is drawn. -/
import Derived.Test.YtneglpklkmoclaaDoorBaseF
import Derived.Test.YtneglpklkmoclaaDoorPolyAny
import Derived.Test.YtneglpklkmoclaaDoorBaseW
import Derived.Test.YtneglpklkmoclaaDoorImplEdges
import Derived.Test.YtneglpklkmoclaaDoorSameInts
import Derived.Test.YtneglpklkmoclaaDoorNumProm
namespace Go.Proofs.YtneglpklkmoclaaDoor
open Go Go.RowKit
set_option linter.unusedVariables false
set_option maxRecDepth 100000

set_option maxHeartbeats 800000 in
theorem fnPoly_long (A : Option Addr) (n c : Nat) (w : World) (h : 1048576 < n) (hm : n ≤ maxLen) :
    Calls Tryd.prog 6 #[.slice A n c] w (Fine w) := by
  unfold maxLen at hm
  have hd : decide ((1048576 : Int) < (n : Int)) = true := by simp; omega
  go_enter Tryd.func6, Tryd.ntmps6
  go_wp2
  go_ret
  exact ⟨rfl, Below.refl _ _⟩

set_option maxHeartbeats 4000000 in
theorem fnPoly_short (A : Option Addr) (n c : Nat) (w : World) (hs : n ≤ 1048576) (hT : Tab w)
    (hD : Calls Tryd.prog 20 #[.slice A n c] w (Drew6 w)) :
    Calls Tryd.prog 6 #[.slice A n c] w (Fine w) := by
  have h2 := hT.lt
  have hd : decide ((1048576 : Int) < (n : Int)) = false := by simp; omega
  have HD := Lib.hid hD
  have HT := Lib.hid hT
  clear hD hT hs
  go_enter Tryd.func6, Tryd.ntmps6
  go_wp2_with fail
  refine HD.out.mono ?_
  rintro e w1 ⟨v, L, rfl, l1, l6, r, b1⟩
  by_cases h : IsGraph L
  · have HI := Lib.hid (fun B v w => implPoly_any B v L w)
    have HS := Lib.hid (fun B v w => specPolyN_any B v L w)
    rw [polySaid_yes h] at HI HS
    have HE := Lib.hid (fun B v w => implGraphEdges_yes B v L h w)
    have HT3 := Lib.hid (fun B v w => implThree_any B v L w)
    rw [oneSaid_yes h] at HT3
    have q4 := edgesN_le L
    have q5 : threeN L ≤ 2176782336 := by have := closed_six h; have := closed_small L h.2.1 3 (by omega); omega
    have p0 := poly_last L
    have p1 := poly_1 h
    have p2 := poly_2 h
    have p3 := poly_3 h
    have pl := poly_len L
    obtain ⟨D, eD⟩ : ∃ D, D = polyL L := ⟨_, rfl⟩
    rw [← eD] at HI HS p0 p1 p2 p3 pl
    obtain ⟨m, em⟩ : ∃ m, m = edgesN L := ⟨_, rfl⟩
    rw [← em] at HE q4 p2
    obtain ⟨t, et⟩ : ∃ t, t = threeN L := ⟨_, rfl⟩
    rw [← et] at HT3 q5 p3
    have P0 := Lib.hid (p0)
    have P1 := Lib.hid (p1)
    have P2 := Lib.hid (p2)
    have P3 := Lib.hid (p3)
    have PL := Lib.hid (pl)
    clear eD em et p0 p1 p2 p3 pl h
    go_wp2_with fail
    refine (HI.out _ v _ r (HT.out.below b1 (by omega))).mono ?_
    rintro e w2 ⟨vd, rfl, rd0, bb2⟩
    have b2 := b1.trans (bb2.mono b1.size)
    have r_2 := r.below bb2
    go_wp2_with fail
    refine (HS.out _ v _ r_2).mono ?_
    rintro e w3 ⟨vs, rfl, rs0, bb3⟩
    have b3 := b2.trans (bb3.mono b2.size)
    have r_3 := r_2.below bb3
    have rd_3 := rd0.below bb3
    go_wp2_with fail
    refine (sameI_yes _ _ vd vs D _ rd_3 rs0 (by have := PL.out; omega)).mono ?_
    rintro e w4 ⟨rfl, d4, rfl⟩
    have b4 := below_drewN b3 d4
    have r_4 := r_3.drewN d4
    have rd_4 := rd_3.drewN d4
    have rs_4 := rs0.drewN d4
    obtain ⟨A1, c1, rfl, _⟩ := r_4.seen
    go_wp2_with fail
    refine (HE.out _ _ _ r_4 (HT.out.below b4 (by omega))).mono ?_
    rintro e w5 ⟨rfl, bb5⟩
    have b5 := b4.trans (bb5.mono b4.size)
    have r_5 := r_4.below bb5
    have rd_5 := rd_4.below bb5
    have rs_5 := rs_4.below bb5
    go_wp2_with fail
    refine (HT3.out _ _ _ r_5 (HT.out.below b5 (by omega))).mono ?_
    rintro e w6 ⟨rfl, bb6⟩
    have b6 := b5.trans (bb6.mono b5.size)
    have r_6 := r_5.below bb6
    have rd_6 := rd_5.below bb6
    have rs_6 := rs_5.below bb6
    obtain ⟨A2, c2, rfl, s2⟩ := rd_6.seen
    obtain ⟨n, en⟩ : ∃ n, n = L.length := ⟨_, rfl⟩
    have hl := PL.out
    rw [← en] at P0 P1 P2 P3 hl l1 l6 ⊢
    obtain ⟨W0, eW0⟩ : ∃ W0, W0 = w6 := ⟨_, rfl⟩
    have BB := Lib.hid b6
    have S2 : Hid (∀ k, k < n + 1 → ∃ g o, A2 = some ⟨g, o, none⟩ ∧ W0.cell? ⟨g, o + k, none⟩ = some (.int .i64 (D[k]?.getD 0))) := Lib.hid fun k hk => by
      obtain ⟨g, o, a, _, hc⟩ := s2 k (by omega)
      exact ⟨g, o, a, by rw [eW0]; exact hc⟩
    rw [← eW0] at BB ⊢
    rw [hl]
    clear eW0 en s2 hl HS HI HE HT3 PL
    obtain ⟨g, o, rfl, c0⟩ := S2.out n (by omega)
    rw [P0.out] at c0
    obtain ⟨a1, ea1⟩ : ∃ a1, a1 = n - 1 := ⟨_, rfl⟩
    obtain ⟨g1, o1, e1, c1x⟩ := S2.out (n - 1) (by omega)
    rw [P1.out] at c1x
    rw [← ea1] at c1x
    obtain ⟨rfl, rfl⟩ : g1 = g ∧ o1 = o := by simp at e1; exact ⟨e1.1.symm, e1.2.symm⟩
    clear e1
    have hn1 : (n : Int) - 1 = (a1 : Int) := by omega
    have hi1 : (0 : Int) ≤ (a1 : Int) ∧ (a1 : Int) < (n : Int) + 1 := by omega
    have hi0 : (0 : Int) ≤ (n : Int) ∧ (n : Int) < (n : Int) + 1 := by omega
    clear ea1
    by_cases h2 : n < 2
    · have h3 : n < 3 := by omega
      go_wp2
      go_ret
      exact ⟨by simp, BB.out⟩
    · obtain ⟨a2, ea2⟩ : ∃ a2, a2 = n - 2 := ⟨_, rfl⟩
      obtain ⟨g2, o2, e2, c2x⟩ := S2.out (n - 2) (by omega)
      rw [P2.out (by omega)] at c2x
      rw [← ea2] at c2x
      obtain ⟨rfl, rfl⟩ : g2 = g1 ∧ o2 = o1 := by simp at e2; exact ⟨e2.1.symm, e2.2.symm⟩
      clear e2
      have hn2 : (n : Int) - 2 = (a2 : Int) := by omega
      have hi2 : (0 : Int) ≤ (a2 : Int) ∧ (a2 : Int) < (n : Int) + 1 := by omega
      clear ea2
      by_cases h3 : n < 3
      · go_wp2
        go_ret
        exact ⟨by simp, BB.out⟩
      · obtain ⟨a3, ea3⟩ : ∃ a3, a3 = n - 3 := ⟨_, rfl⟩
        obtain ⟨g3, o3, e3, c3x⟩ := S2.out (n - 3) (by omega)
        rw [P3.out (by omega)] at c3x
        rw [← ea3] at c3x
        obtain ⟨rfl, rfl⟩ : g3 = g2 ∧ o3 = o2 := by simp at e3; exact ⟨e3.1.symm, e3.2.symm⟩
        clear e3
        have hn3 : (n : Int) - 3 = (a3 : Int) := by omega
        have hi3 : (0 : Int) ≤ (a3 : Int) ∧ (a3 : Int) < (n : Int) + 1 := by omega
        clear ea3
        go_wp2
        go_ret
        exact ⟨by simp, BB.out⟩
  · have HI := Lib.hid (fun B v w => implPoly_any B v L w)
    have HS := Lib.hid (fun B v w => specPolyN_any B v L w)
    rw [polySaid_no h] at HI HS
    clear h
    go_wp2_with fail
    refine (HI.out _ v _ r (HT.out.below b1 (by omega))).mono ?_
    rintro e w2 ⟨vd, rfl, rd0, bb2⟩
    have b2 := b1.trans (bb2.mono b1.size)
    have r_2 := r.below bb2
    go_wp2_with fail
    refine (HS.out _ v _ r_2).mono ?_
    rintro e w3 ⟨vs, rfl, rs0, bb3⟩
    have b3 := b2.trans (bb3.mono b2.size)
    have r_3 := r_2.below bb3
    have rd_3 := rd0.below bb3
    go_wp2_with fail
    refine (sameI_yes _ _ vd vs [] _ rd_3 rs0 (by simp)).mono ?_
    rintro e w4 ⟨rfl, d4, rfl⟩
    have b4 := below_drewN b3 d4
    have r_4 := r_3.drewN d4
    have rd_4 := rd_3.drewN d4
    have rs_4 := rs0.drewN d4
    go_wp2_with fail
    refine (sameI_yes _ _ vd vs [] _ rd_4 rs_4 (by simp)).mono ?_
    rintro e w5 ⟨rfl, d5, rfl⟩
    have b5 := below_drewN b4 d5
    have r_5 := r_4.drewN d5
    have rd_5 := rd_4.drewN d5
    have rs_5 := rs_4.drewN d5
    go_wp2
    go_ret
    exact ⟨by simp, below_drewN b3 (d4 + d5)⟩
end Go.Proofs.YtneglpklkmoclaaDoor
