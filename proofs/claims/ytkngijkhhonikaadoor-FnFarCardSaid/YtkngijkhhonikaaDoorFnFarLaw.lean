/- The law FnFar returns true and leaves all that was there as it was, whatever is drawn. -/
import Derived.Test.YtkngijkhhonikaaDoorBaseF
import Derived.Test.YtkngijkhhonikaaDoorSameInts
import Derived.Test.YtkngijkhhonikaaDoorFarProms
namespace Go.Proofs.YtkngijkhhonikaaDoor
open Go Go.RowKit
set_option linter.unusedVariables false
set_option maxRecDepth 100000

set_option maxHeartbeats 800000 in
theorem fnFar_long (A : Option Addr) (n c : Nat) (w : World) (h : 1048576 < n) (hm : n ≤ maxLen) :
    Calls Tryd.prog 8 #[.slice A n c] w (Fine w) := by
  unfold maxLen at hm
  have hd : decide ((1048576 : Int) < (n : Int)) = true := by simp; omega
  go_enter Tryd.func8, Tryd.ntmps8
  go_wp2
  go_ret
  exact ⟨rfl, Below.refl _ _⟩

set_option maxHeartbeats 4000000 in
theorem fnFar_short (A : Option Addr) (n c : Nat) (w : World) (hs : n ≤ 1048576) (hT : Tab w)
    (hD : Calls Tryd.prog 29 #[.slice A n c] w (DrewTwo 6 7 w)) :
    Calls Tryd.prog 8 #[.slice A n c] w (Fine w) := by
  have h2 := hT.lt
  have hd : decide ((1048576 : Int) < (n : Int)) = false := by simp; omega
  have HD := Lib.hid hD
  have HT := Lib.hid hT
  clear hD hT hs
  go_enter Tryd.func8, Tryd.ntmps8
  go_wp2_with fail
  refine HD.out.mono ?_
  rintro e w1 ⟨v, L, v2, M, rfl, ⟨l1, l6⟩, ⟨m1, m7⟩, r, rm, b1⟩
  by_cases h : IsFar L M
  · obtain ⟨q1, q2, q3⟩ := far_facts h
    have HI := Lib.hid (fun B B2 v v2 w => implFar_any B B2 v v2 L M w)
    have HS := Lib.hid (fun B B2 v v2 w => specFar_any B B2 v v2 L M w)
    have HI2 := Lib.hid (fun B B2 v v2 w => implFar_any B B2 v v2 M L w)
    rw [farP_yes h] at HI HS
    rw [farP_yes (far_turn h), ← q1] at HI2
    obtain ⟨x, ex⟩ : ∃ x, x = farN L M := ⟨_, rfl⟩
    rw [← ex] at HI HS HI2 q2 q3
    have Q3 := Lib.hid q3
    clear h ex q1 q3
    go_wp2_with fail
    refine (HI.out _ _ v v2 _ r rm (HT.out.below b1 (by omega))).mono ?_
    rintro e w2 ⟨rfl, bb2⟩
    have b2 := b1.trans (bb2.mono b1.size)
    have r_2 := r.below bb2
    have m_2 := rm.below bb2
    go_wp2_with fail
    refine (HS.out _ _ v v2 _ r_2 m_2).mono ?_
    rintro e w3 ⟨rfl, bb3⟩
    have b3 := b2.trans (bb3.mono b2.size)
    have r_3 := r_2.below bb3
    have m_3 := m_2.below bb3
    go_wp2_with fail
    refine (HI2.out _ _ v2 v _ m_3 r_3 (HT.out.below b3 (by omega))).mono ?_
    rintro e w4 ⟨rfl, bb4⟩
    have b4 := b3.trans (bb4.mono b3.size)
    have r_4 := r_3.below bb4
    have m_4 := m_3.below bb4
    obtain ⟨A1, c1, rfl, _⟩ := r_4.seen
    have hxl : (x : Int) < (L.length : Int) := by omega
    by_cases h0 : x = 0
    · have e := Q3.out.1 h0
      subst e
      subst h0
      clear Q3
      go_wp2_with fail
      refine (sameI_yes _ _ _ v2 L _ r_4 m_4 (by omega)).mono ?_
      rintro e w9 ⟨rfl, d9, rfl⟩
      have b9 := below_drewN b4 d9
      go_wp2
      go_ret
      exact ⟨by simp, b9⟩
    · have hne : L ≠ M := fun e => h0 (Q3.out.2 e)
      have hx0 : ((x : Int) == 0) = false := by simp; omega
      clear Q3
      have HSI := Lib.hid (sameI_any _ _ _ v2 L M _ r_4 m_4 (by omega))
      unfold SaidEq at HSI
      rw [decide_eq_false hne] at HSI
      go_wp2_with fail
      refine HSI.out.mono ?_
      rintro e w9 ⟨rfl, d9, rfl⟩
      have b9 := below_drewN b4 d9
      go_wp2
      go_ret
      exact ⟨by simp, b9⟩
  · have HI := Lib.hid (fun B B2 v v2 w => implFar_any B B2 v v2 L M w)
    have HS := Lib.hid (fun B B2 v v2 w => specFar_any B B2 v v2 L M w)
    rw [farP_no h] at HI HS
    clear h
    go_wp2_with fail
    refine (HI.out _ _ v v2 _ r rm (HT.out.below b1 (by omega))).mono ?_
    rintro e w2 ⟨rfl, bb2⟩
    have b2 := b1.trans (bb2.mono b1.size)
    have r_2 := r.below bb2
    have m_2 := rm.below bb2
    go_wp2_with fail
    refine (HS.out _ _ v v2 _ r_2 m_2).mono ?_
    rintro e w3 ⟨rfl, bb3⟩
    have b3 := b2.trans (bb3.mono b2.size)
    have r_3 := r_2.below bb3
    have m_3 := m_2.below bb3
    go_wp2
    go_ret
    exact ⟨by simp, b3⟩
end Go.Proofs.YtkngijkhhonikaaDoor
