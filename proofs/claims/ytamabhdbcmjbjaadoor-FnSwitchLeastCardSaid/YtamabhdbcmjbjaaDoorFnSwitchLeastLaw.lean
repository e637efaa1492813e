/- The law FnSwitchLeast returns true and leaves all that was there as it was, whatever is drawn. -/
import Derived.Test.YtamabhdbcmjbjaaDoorDrewDef
import Derived.Test.YtamabhdbcmjbjaaDoorSwitchLeastFns
import Derived.Test.YtamabhdbcmjbjaaDoorImplNSw
import Derived.Test.YtamabhdbcmjbjaaDoorLeastFn
import Derived.Test.YtamabhdbcmjbjaaDoorSwProm
namespace Go.Proofs.YtamabhdbcmjbjaaDoor
open Go Go.RowKit
set_option linter.unusedVariables false
set_option maxRecDepth 100000

set_option maxHeartbeats 800000 in
theorem fnSwitchLeast_long (A : Option Addr) (n c : Nat) (w : World) (h : 1048576 < n) (hm : n ≤ maxLen) :
    Calls Tryd.prog 3 #[.slice A n c] w (Fine w) := by
  unfold maxLen at hm
  have hd : decide ((1048576 : Int) < (n : Int)) = true := by simp; omega
  go_enter Tryd.func3, Tryd.ntmps3
  go_wp2
  go_ret
  exact ⟨rfl, Below.refl _ _⟩

set_option maxHeartbeats 4000000 in
theorem fnSwitchLeast_short (A : Option Addr) (n c : Nat) (w : World) (hs : n ≤ 1048576) (hT : Tab w)
    (hD : Calls Tryd.prog 7 #[.slice A n c] w (Drew w)) :
    Calls Tryd.prog 3 #[.slice A n c] w (Fine w) := by
  have h2 := hT.lt
  have hd : decide ((1048576 : Int) < (n : Int)) = false := by simp; omega
  have HD := Lib.hid hD
  have HT := Lib.hid hT
  clear hD hT hs
  go_enter Tryd.func3, Tryd.ntmps3
  go_wp2_with fail
  refine HD.out.mono ?_
  rintro e w1 ⟨v, L, rfl, l1, l5, r, b1⟩
  by_cases h : IsGraph L
  · have h2p : (1 : Nat) < 2 ^ L.length := by have := Nat.pow_le_pow_right (n := 2) (by decide) h.1; omega
    have HI := Lib.hid (fun B v w => implSwl_yes B v L h w)
    have HS := Lib.hid (fun B v w => specSwl_yes B v L h w)
    have HA := Lib.hid (fun B v w => implAlikeLeast_yes B v L h w)
    have HN : Hid (∀ B v w, Row w B v L → Tab w → Calls Tryd.prog 11 #[v, .int .i64 1] w (Told w (swL L 1) true)) := Lib.hid (fun B v w => implNSw_good B v L 1 h h2p w)
    have HI2 := Lib.hid (fun B v w => implSwl_yes B v (swL L 1) (sw_graph h h2p) w)
    rw [swLeast_sw h h2p] at HI2
    have q1 := swLeast_le L
    have q2 := swLeast_small h
    have q3 := Nat.lt_of_lt_of_le (least_lt h) (Nat.pow_le_pow_right (n := 2) (by decide) (rows_length _ h.2.1))
    obtain ⟨x, ex⟩ : ∃ x, x = swLeast L := ⟨_, rfl⟩
    rw [← ex] at HI HS HI2 q1 q2
    obtain ⟨c0, ec0⟩ : ∃ c0, c0 = leastL L := ⟨_, rfl⟩
    rw [← ec0] at HA q1 q3
    obtain ⟨M, eM⟩ : ∃ M, M = swL L 1 := ⟨_, rfl⟩
    rw [← eM] at HN HI2
    clear ex ec0 eM h h2p
    go_wp2_with fail
    refine (HI.out _ v _ r (HT.out.below b1 (by omega))).mono ?_
    rintro e w2 ⟨rfl, bb2⟩
    have b2 := b1.trans (bb2.mono b1.size)
    have r_2 := r.below bb2
    go_wp2_with fail
    refine (HS.out _ v _ r_2).mono ?_
    rintro e w3 ⟨rfl, bb3⟩
    have b3 := b2.trans (bb3.mono b2.size)
    have r_3 := r_2.below bb3
    go_wp2_with fail
    refine (HA.out _ v _ r_3 (HT.out.below b3 (by omega))).mono ?_
    rintro e w4 ⟨rfl, bb4⟩
    have b4 := b3.trans (bb4.mono b3.size)
    have r_4 := r_3.below bb4
    go_wp2_with fail
    refine (HN.out _ v _ r_4 (HT.out.below b4 (by omega))).mono ?_
    rintro e w5 ⟨vo, rfl, ro0, bb5⟩
    have b5 := b4.trans (bb5.mono b4.size)
    have r_5 := r_4.below bb5
    go_wp2_with fail
    refine (HI2.out _ vo _ ro0 (HT.out.below b5 (by omega))).mono ?_
    rintro e w6 ⟨rfl, bb6⟩
    have b6 := b5.trans (bb6.mono b5.size)
    have r_6 := r_5.below bb6
    have ro_6 := ro0.below bb6
    go_wp2
    go_ret
    exact ⟨by simp, b6⟩
  · have HI := Lib.hid (fun B v w => implSwl_no B v L h w)
    have HS := Lib.hid (fun B v w => specSwl_no B v L h w)
    clear h
    go_wp2_with fail
    refine (HI.out _ v _ r (HT.out.below b1 (by omega))).mono ?_
    rintro e w2 ⟨rfl, bb2⟩
    have b2 := b1.trans (bb2.mono b1.size)
    have r_2 := r.below bb2
    go_wp2_with fail
    refine (HS.out _ v _ r_2).mono ?_
    rintro e w3 ⟨rfl, bb3⟩
    have b3 := b2.trans (bb3.mono b2.size)
    have r_3 := r_2.below bb3
    go_wp2
    go_ret
    exact ⟨by simp, b3⟩
end Go.Proofs.YtamabhdbcmjbjaaDoor
