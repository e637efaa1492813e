/- The law FnClosed returns true and leaves all that was there as it was, whatever is drawn. -/
import Derived.Test.YtneglpklkmoclaaDoorDrawWalk
import Derived.Test.YtneglpklkmoclaaDoorBaseW
import Derived.Test.YtneglpklkmoclaaDoorImplEdges
import Derived.Test.YtneglpklkmoclaaDoorNumProm
namespace Go.Proofs.YtneglpklkmoclaaDoor
open Go Go.RowKit
set_option linter.unusedVariables false
set_option maxRecDepth 100000

set_option maxHeartbeats 800000 in
theorem fnClosed_long (A : Option Addr) (n c : Nat) (w : World) (h : 1048576 < n) (hm : n ≤ maxLen) :
    Calls Tryd.prog 5 #[.slice A n c] w (Fine w) := by
  unfold maxLen at hm
  have hd : decide ((1048576 : Int) < (n : Int)) = true := by simp; omega
  go_enter Tryd.func5, Tryd.ntmps5
  go_wp2
  go_ret
  exact ⟨rfl, Below.refl _ _⟩

set_option maxHeartbeats 4000000 in
theorem fnClosed_short (A : Option Addr) (n c : Nat) (w : World) (hs : n ≤ 1048576) (hT : Tab w)
    (hD : Calls Tryd.prog 15 #[.slice A n c] w (DrewZ w)) :
    Calls Tryd.prog 5 #[.slice A n c] w (Fine w) := by
  have h2 := hT.lt
  have hd : decide ((1048576 : Int) < (n : Int)) = false := by simp; omega
  have HD := Lib.hid hD
  have HT := Lib.hid hT
  clear hD hT hs
  go_enter Tryd.func5, Tryd.ntmps5
  go_wp2_with fail
  refine HD.out.mono ?_
  rintro e w1 ⟨v, L, z, rfl, l1, l6, z1, z2, r, b1⟩
  by_cases h : InLen L z
  · obtain ⟨hg, h0, h12⟩ := h
    obtain ⟨k, rfl⟩ : ∃ k : Nat, z = k := ⟨z.toNat, by omega⟩
    have hk : k ≤ 12 := by omega
    have HI := Lib.hid (fun B v w => implClosed_any B v L k w)
    have HS := Lib.hid (fun B v w => specClosed_any B v L k w)
    rw [walkSaid_yes hg hk] at HI HS
    have HE := Lib.hid (fun B v w => implGraphEdges_yes B v L hg w)
    have HT3 := Lib.hid (fun B v w => implThree_any B v L w)
    rw [oneSaid_yes hg] at HT3
    have HW := Lib.hid (fun B v w => implWalks_any B v L k w)
    rw [walkSaid_yes hg hk] at HW
    have q1 := closed_walks L k
    have q2 := walks_small L hg.2.1 k hk
    have q4 := edgesN_le L
    have q5 : threeN L ≤ 2176782336 := by have := closed_six hg; have := closed_small L hg.2.1 3 (by omega); omega
    have f0 : k = 0 → closedN L k = L.length := fun e => by rw [e, closedN_zero]
    have f1 : k = 1 → closedN L k = 0 := fun e => by rw [e, closed_one hg]
    have f2 : k = 2 → closedN L k = 2 * edgesN L := fun e => by rw [e, closed_two hg]
    have f3 : k = 3 → closedN L k = 6 * threeN L := fun e => by rw [e, closed_six hg]
    obtain ⟨x, ex⟩ : ∃ x, x = closedN L k := ⟨_, rfl⟩
    rw [← ex] at HI HS q1 f0 f1 f2 f3
    obtain ⟨y, ey⟩ : ∃ y, y = walksN L k := ⟨_, rfl⟩
    rw [← ey] at HW q1 q2
    obtain ⟨m, em⟩ : ∃ m, m = edgesN L := ⟨_, rfl⟩
    rw [← em] at HE q4 f2
    obtain ⟨t, et⟩ : ∃ t, t = threeN L := ⟨_, rfl⟩
    rw [← et] at HT3 q5 f3
    have hxy : x ≤ y := q1
    have hm2 : wrap64 (2 * (m : Int)) = ((2 * m : Nat) : Int) := by unfold wrap64; omega
    have ht6 : wrap64 (6 * (t : Int)) = ((6 * t : Nat) : Int) := by unfold wrap64; omega
    have HXY := Lib.hid (hxy)
    have HM2 := Lib.hid (hm2)
    have HT6 := Lib.hid (ht6)
    have F0 := Lib.hid (f0)
    have F1 := Lib.hid (f1)
    have F2 := Lib.hid (f2)
    have F3 := Lib.hid (f3)
    clear ex ey em et q1 q2 q4 q5 f0 f1 f2 f3 hxy hm2 ht6 hg
    go_wp2_with fail
    refine (HI.out _ v _ r (HT.out.below b1 (by omega))).mono ?_
    rintro e w2 ⟨rfl, bb2⟩
    have b2 := b1.trans (bb2.mono b1.size)
    have r_2 := r.below bb2
    go_wp2_with fail
    refine (HS.out _ v _ r_2).mono ?_
    rintro e w3 ⟨rfl, bb3⟩
    have b3 := b2.trans (bb3.mono b2.size)
    have r_3 := r_2.below bb3
    go_wp2_with fail
    refine (HE.out _ v _ r_3 (HT.out.below b3 (by omega))).mono ?_
    rintro e w4 ⟨rfl, bb4⟩
    have b4 := b3.trans (bb4.mono b3.size)
    have r_4 := r_3.below bb4
    go_wp2_with fail
    refine (HT3.out _ v _ r_4 (HT.out.below b4 (by omega))).mono ?_
    rintro e w5 ⟨rfl, bb5⟩
    have b5 := b4.trans (bb5.mono b4.size)
    have r_5 := r_4.below bb5
    go_wp2_with fail
    refine (HW.out _ v _ r_5 (HT.out.below b5 (by omega))).mono ?_
    rintro e w6 ⟨rfl, bb6⟩
    have b6 := b5.trans (bb6.mono b5.size)
    have r_6 := r_5.below bb6
    obtain ⟨A1, c1, rfl, _⟩ := r_6.seen
    have hxy := HXY.out
    have hc : k = 0 ∨ k = 1 ∨ k = 2 ∨ k = 3 ∨ 4 ≤ k := by omega
    rcases hc with rfl | rfl | rfl | rfl | h4
    · have e := F0.out rfl
      subst e
      go_wp2
      go_ret
      exact ⟨by simp, b6⟩
    · have e := F1.out rfl
      subst e
      go_wp2
      go_ret
      exact ⟨by simp, b6⟩
    · have e := F2.out rfl
      have hm2 := HM2.out
      rw [← e] at hm2
      clear e
      go_wp2
      go_ret
      exact ⟨by simp, b6⟩
    · have e := F3.out rfl
      have ht6 := HT6.out
      rw [← e] at ht6
      clear e
      go_wp2
      go_ret
      exact ⟨by simp, b6⟩
    · have c0 : ((k : Int) != 0) = true := by simp; omega
      have c1 : ((k : Int) != 1) = true := by simp; omega
      have c2 : ((k : Int) != 2) = true := by simp; omega
      have c3 : ((k : Int) != 3) = true := by simp; omega
      go_wp2
      go_ret
      exact ⟨by simp, b6⟩
  · have HI := Lib.hid (fun B v w => implClosed_any B v L z w)
    have HS := Lib.hid (fun B v w => specClosed_any B v L z w)
    rw [walkSaid_no h] at HI HS
    clear h
    go_wp2_with fail
    refine (HI.out _ v _ r (HT.out.below b1 (by omega))).mono ?_
    rintro e w2 ⟨rfl, bb2⟩
    have b2 := b1.trans (bb2.mono b1.size)
    have r_2 := r.below bb2
    go_wp2_with fail
    refine (HS.out _ v _ r_2).mono ?_
    rintro e w3 ⟨rfl, bb3⟩
    have b3 := b2.trans (bb3.mono b2.size)
    have r_3 := r_2.below bb3
    go_wp2
    go_ret
    exact ⟨by simp, b3⟩
end Go.Proofs.YtneglpklkmoclaaDoor
