/- The law FnNone returns true and leaves all that was there as it was, whatever list is drawn. -/
import Derived.Test.YtcemhepojjbcgaaDoorBaseF
import Derived.Test.YtcemhepojjbcgaaDoorNoneFn
import Derived.Test.YtcemhepojjbcgaaDoorSameLaw
import Derived.Test.YtcemhepojjbcgaaDoorOrbitsLaw
import Derived.Test.YtcemhepojjbcgaaDoorNoneMath
namespace Go.Proofs.YtcemhepojjbcgaaDoor
open Go Go.RowKit
set_option linter.unusedVariables false
set_option maxRecDepth 100000

set_option maxHeartbeats 800000 in
theorem fnNone_long (A : Option Addr) (n c : Nat) (w : World) (h : 1048576 < n) (hm : n ≤ maxLen) :
    Calls Tryd.prog 14 #[.slice A n c] w (Fine w) := by
  unfold maxLen at hm
  have hd : decide ((1048576 : Int) < (n : Int)) = true := by simp; omega
  go_enter Tryd.func14, Tryd.ntmps14
  go_wp2
  go_ret
  exact ⟨rfl, Below.refl _ _⟩

set_option maxHeartbeats 4000000 in
theorem fnNone_short (A : Option Addr) (n c : Nat) (w : World) (hs : n ≤ 1048576) (hT : Tab w)
    (hD : Calls Tryd.prog 56 #[.slice A n c] w (Drew6 w)) :
    Calls Tryd.prog 14 #[.slice A n c] w (Fine w) := by
  have h2 := hT.lt
  have hd : decide ((1048576 : Int) < (n : Int)) = false := by simp; omega
  have HD := Lib.hid hD
  have HT := Lib.hid hT
  clear hD hT hs
  go_enter Tryd.func14, Tryd.ntmps14
  go_wp2_with fail
  refine HD.out.mono ?_
  rintro e w1 ⟨v, L, rfl, l1, l6, r, b1⟩
  by_cases h : IsGraph L
  · by_cases ho : noneB L = true
    · have HC := Lib.hid (fun B v w => implNone_yes B v L h w)
      have HS := Lib.hid (fun B v w => specNone_yes B v L h w)
      have HM := Lib.hid (fun B v w => implAlikeSame_yes B v L h w)
      have HO := Lib.hid (fun B v w => implAlikeOrbits_yes B v L h w)
      obtain ⟨hs, hol, hn⟩ := none_facts h ho
      rw [ho] at HC HS
      rw [hs] at HM
      have hil : (ints (orbitsL L)).length = L.length := by rw [ints_length]; exact hol
      obtain ⟨O, eO⟩ : ∃ O, O = ints (orbitsL L) := ⟨_, rfl⟩
      rw [← eO] at HO hil
      have HIL := Lib.hid hil
      clear h ho hs hol eO hil
      go_wp2_with fail
      refine (HC.out _ v _ r (HT.out.below b1 (by omega))).mono ?_
      rintro e w2 ⟨rfl, bb2⟩
      have b2 := b1.trans (bb2.mono b1.size)
      have r_2 := r.below bb2
      go_wp2_with fail
      refine (HS.out _ v _ r_2).mono ?_
      rintro e w3 ⟨rfl, bb3⟩
      have b3 := b2.trans (bb3.mono b2.size)
      have r_3 := r_2.below bb3
      go_wp2_with fail
      refine (HM.out _ v _ r_3 (HT.out.below b3 (by omega))).mono ?_
      rintro e w4 ⟨rfl, bb4⟩
      have b4 := b3.trans (bb4.mono b3.size)
      have r_4 := r_3.below bb4
      go_wp2_with fail
      refine (HO.out _ v _ r_4 (HT.out.below b4 (by omega))).mono ?_
      rintro e w5 ⟨vo, rfl, ro0, bb5⟩
      have b5 := b4.trans (bb5.mono b4.size)
      have r_5 := r_4.below bb5
      obtain ⟨A1, c1, rfl, _⟩ := r_5.seen
      obtain ⟨A2, c2, rfl, _⟩ := ro0.seen
      rw [HIL.out]
      have hn6 : L.length = 1 ∨ L.length = 6 := by omega
      have BB := Lib.hid b5
      obtain ⟨W0, eW0⟩ : ∃ W0, W0 = w5 := ⟨_, rfl⟩
      rw [← eW0] at BB ⊢
      clear HC HS HM HO HT HD HIL eW0 hn
      rcases hn6 with hn | hn
      · rw [hn]
        clear hn l1 l6
        go_wp2
        go_ret
        exact ⟨by simp, BB.out⟩
      · rw [hn]
        clear hn l1 l6
        go_wp2
        go_ret
        exact ⟨by simp, BB.out⟩
    · have hof : noneB L = false := by simpa using ho
      have HC := Lib.hid (fun B v w => implNone_yes B v L h w)
      have HS := Lib.hid (fun B v w => specNone_yes B v L h w)
      rw [hof] at HC HS
      clear h ho hof
      go_wp2_with fail
      refine (HC.out _ v _ r (HT.out.below b1 (by omega))).mono ?_
      rintro e w2 ⟨rfl, bb2⟩
      have b2 := b1.trans (bb2.mono b1.size)
      have r_2 := r.below bb2
      go_wp2_with fail
      refine (HS.out _ v _ r_2).mono ?_
      rintro e w3 ⟨rfl, bb3⟩
      have b3 := b2.trans (bb3.mono b2.size)
      have r_3 := r_2.below bb3
      go_wp2
      go_ret
      exact ⟨by simp, b3⟩
  · have HC := Lib.hid (fun B v w => implNone_no B v L h w)
    have HS := Lib.hid (fun B v w => specNone_no B v L h w)
    clear h
    go_wp2_with fail
    refine (HC.out _ v _ r (HT.out.below b1 (by omega))).mono ?_
    rintro e w2 ⟨rfl, bb2⟩
    have b2 := b1.trans (bb2.mono b1.size)
    have r_2 := r.below bb2
    go_wp2_with fail
    refine (HS.out _ v _ r_2).mono ?_
    rintro e w3 ⟨rfl, bb3⟩
    have b3 := b2.trans (bb3.mono b2.size)
    have r_3 := r_2.below bb3
    go_wp2
    go_ret
    exact ⟨by simp, b3⟩
end Go.Proofs.YtcemhepojjbcgaaDoor
