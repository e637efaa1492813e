/- The law FnSame returns true and leaves all that was there as it was, whatever list is drawn. -/
import Derived.Test.YtcemhepojjbcgaaDoorBaseF
import Derived.Test.YtcemhepojjbcgaaDoorSameLaw
import Derived.Test.YtcemhepojjbcgaaDoorManyLaw
import Derived.Test.YtcemhepojjbcgaaDoorImplOther
import Derived.Test.YtcemhepojjbcgaaDoorLagrange
import Derived.Test.YtcemhepojjbcgaaDoorFactorial
namespace Go.Proofs.YtcemhepojjbcgaaDoor
open Go Go.RowKit
set_option linter.unusedVariables false
set_option maxRecDepth 100000

theorem mul_small {x y z : Nat} (h : x * y = z) (hz : z ≤ 720) : wrap64 ((x : Int) * (y : Int)) = (z : Int) := by
  rw [← Int.natCast_mul, h]
  unfold wrap64
  omega
set_option maxHeartbeats 800000 in
theorem fnSame_long (A : Option Addr) (n c : Nat) (w : World) (h : 1048576 < n) (hm : n ≤ maxLen) :
    Calls Tryd.prog 6 #[.slice A n c] w (Fine w) := by
  unfold maxLen at hm
  have hd : decide ((1048576 : Int) < (n : Int)) = true := by simp; omega
  go_enter Tryd.func6, Tryd.ntmps6
  go_wp2
  go_ret
  exact ⟨rfl, Below.refl _ _⟩

set_option maxHeartbeats 4000000 in
theorem fnSame_short (A : Option Addr) (n c : Nat) (w : World) (hs : n ≤ 1048576) (hT : Tab w)
    (hD : Calls Tryd.prog 29 #[.slice A n c] w (Drew6 w)) :
    Calls Tryd.prog 6 #[.slice A n c] w (Fine w) := by
  have h2 := hT.lt
  have hd : decide ((1048576 : Int) < (n : Int)) = false := by simp; omega
  have HD := Lib.hid hD
  have HT := Lib.hid hT
  clear hD hT hs
  go_enter Tryd.func6, Tryd.ntmps6
  go_wp2_with fail
  refine HD.out.mono ?_
  rintro e w1 ⟨v, L, rfl, l1, l6, r, b1⟩
  by_cases h : IsGraph L
  · have HC := Lib.hid (fun B v w => implAlikeSame_yes B v L h w)
    have HS := Lib.hid (fun B v w => specAlikeSame_yes B v L h w)
    have HM := Lib.hid (fun B v w => implAlikeMany_yes B v L h w)
    have HO := Lib.hid (fun B v w => implGraphOther_yes B v L h w)
    have HC2 := Lib.hid (fun B v w => implAlikeSame_yes B v (otherL L L.length) (other_graph h) w)
    rw [autos_other h] at HC2
    have HF := Lib.hid (fun w => lawFactorial_any L.length l1 l6 w)
    have hsm := same_many h
    have hfl := fac_le ⟨L.length, by omega⟩
    dsimp only at hfl
    obtain ⟨x, ex⟩ : ∃ x, x = (autosL L).length := ⟨_, rfl⟩
    obtain ⟨y, ey⟩ : ∃ y, y = manyN L := ⟨_, rfl⟩
    obtain ⟨z, ez⟩ : ∃ z, z = fac L.length := ⟨_, rfl⟩
    obtain ⟨M, eM⟩ : ∃ M, M = otherL L L.length := ⟨_, rfl⟩
    rw [← ex] at HC HS HC2 hsm
    rw [← ey] at HM hsm
    rw [← ez] at HF hsm hfl
    rw [← eM] at HO HC2
    have hmul := mul_small hsm hfl
    have HMU := Lib.hid hmul
    clear h ex ey ez eM hsm hmul
    go_wp2_with fail
    refine (HC.out _ v _ r (HT.out.below b1 (by omega))).mono ?_
    rintro e w2 ⟨rfl, bb2⟩
    have b2 := b1.trans (bb2.mono b1.size)
    have r_2 := r.below bb2
    go_wp2_with fail
    refine (HS.out _ v _ r_2).mono ?_
    rintro e w3 ⟨rfl, bb3⟩
    have b3 := b2.trans (bb3.mono b2.size)
    have r_3 := r_2.below bb3
    go_wp2_with fail
    refine (HM.out _ v _ r_3 (HT.out.below b3 (by omega))).mono ?_
    rintro e w4 ⟨rfl, bb4⟩
    have b4 := b3.trans (bb4.mono b3.size)
    have r_4 := r_3.below bb4
    go_wp2_with fail
    refine (HO.out _ _ _ r_4 (HT.out.below b4 (by omega))).mono ?_
    rintro e w5 ⟨vo, rfl, ro0, bb5⟩
    have b5 := b4.trans (bb5.mono b4.size)
    have r_5 := r_4.below bb5
    go_wp2_with fail
    refine (HC2.out _ vo _ ro0 (HT.out.below b5 (by omega))).mono ?_
    rintro e w6 ⟨rfl, bb6⟩
    have b6 := b5.trans (bb6.mono b5.size)
    have r_6 := r_5.below bb6
    have ro_6 := ro0.below bb6
    obtain ⟨A1, c1, rfl, _⟩ := r_6.seen
    go_wp2_with fail
    refine (HF.out _).mono ?_
    rintro e w9 ⟨rfl, rfl⟩
    have hmu := HMU.out
    rw [hmu]
    clear hmu
    go_wp2
    go_ret
    exact ⟨by simp, b6⟩
  · have HC := Lib.hid (fun B v w => implAlikeSame_no B v L h w)
    have HS := Lib.hid (fun B v w => specAlikeSame_no B v L h w)
    clear h
    go_wp2_with fail
    refine (HC.out _ v _ r (HT.out.below b1 (by omega))).mono ?_
    rintro e w2 ⟨rfl, bb2⟩
    have b2 := b1.trans (bb2.mono b1.size)
    have r_2 := r.below bb2
    go_wp2_with fail
    refine (HS.out _ v _ r_2).mono ?_
    rintro e w3 ⟨rfl, bb3⟩
    have b3 := b2.trans (bb3.mono b2.size)
    have r_3 := r_2.below bb3
    go_wp2
    go_ret
    exact ⟨by simp, b3⟩
end Go.Proofs.YtcemhepojjbcgaaDoor
