/- The law FnFree returns true and leaves all that was there as it was, whatever list is drawn. -/
import Derived.Test.YtfhaeocgbihddaaDoorBaseF
import Derived.Test.YtfhaeocgbihddaaDoorBaseS
import Derived.Test.YtfhaeocgbihddaaDoorImplOther
import Derived.Test.YtfhaeocgbihddaaDoorOtherTwice
import Derived.Test.YtfhaeocgbihddaaDoorPromSets
namespace Go.Proofs.YtfhaeocgbihddaaDoor
open Go Go.RowKit
set_option linter.unusedVariables false
set_option maxRecDepth 100000

set_option maxHeartbeats 800000 in
theorem fnFree_long (A : Option Addr) (n c : Nat) (w : World) (h : 1048576 < n) (hm : n ≤ maxLen) :
    Calls Tryd.prog 3 #[.slice A n c] w (Fine w) := by
  unfold maxLen at hm
  have hd : decide ((1048576 : Int) < (n : Int)) = true := by simp; omega
  go_enter Tryd.func3, Tryd.ntmps3
  go_wp2
  go_ret
  exact ⟨rfl, Below.refl _ _⟩

set_option maxHeartbeats 4000000 in
theorem fnFree_short (A : Option Addr) (n c : Nat) (w : World) (hs : n ≤ 1048576) (hT : Tab w)
    (hD : Calls Tryd.prog 8 #[.slice A n c] w (Drew6 w)) :
    Calls Tryd.prog 3 #[.slice A n c] w (Fine w) := by
  have h2 := hT.lt
  have hd : decide ((1048576 : Int) < (n : Int)) = false := by simp; omega
  have HD := Lib.hid hD
  have HT := Lib.hid hT
  clear hD hT hs
  go_enter Tryd.func3, Tryd.ntmps3
  go_wp2_with fail
  refine HD.out.mono ?_
  rintro e w1 ⟨v, L, rfl, l1, l6, r, b1⟩
  by_cases h : IsGraph L
  · have HI := Lib.hid (fun B v w => implFr_yes B v L h w)
    have HS := Lib.hid (fun B v w => specFr_yes B v L h w)
    have HO := Lib.hid (fun B v w => implGraphOther_yes B v L h w)
    have HU := Lib.hid (fun B v w => implFu_yes B v (otherL L L.length) (other_graph h) w)
    rw [other_other h] at HU
    have HC := Lib.hid (fun B v w => implCo_yes B v L h w)
    have hm := (cover_min h.2.1).1
    obtain ⟨m, em⟩ : ∃ m, m = mostN L := ⟨_, rfl⟩
    rw [← em] at HI HS HU HC hm
    obtain ⟨M, eM⟩ : ∃ M, M = otherL L L.length := ⟨_, rfl⟩
    rw [← eM] at HO HU
    obtain ⟨k, ek⟩ : ∃ k, k = L.length - m := ⟨_, rfl⟩
    rw [← ek] at HC
    have hs : (m : Int) + (k : Int) = (L.length : Int) := by omega
    have HSUM := Lib.hid (hs)
    have hb : m ≤ 6 ∧ k ≤ 6 := by omega
    clear h em eM ek hm hs
    go_wp2_with fail
    refine (HI.out _ v _ r (HT.out.below b1 (by omega))).mono ?_
    rintro e w2 ⟨rfl, bb2⟩
    have b2 := b1.trans (bb2.mono b1.size)
    have r_2 := r.below bb2
    go_wp2_with fail
    refine (HS.out _ v _ r_2).mono ?_
    rintro e w3 ⟨rfl, bb3⟩
    have b3 := b2.trans (bb3.mono b2.size)
    have r_3 := r_2.below bb3
    go_wp2_with fail
    refine (HO.out _ v _ r_3 (HT.out.below b3 (by omega))).mono ?_
    rintro e w4 ⟨vo, rfl, ro0, bb4⟩
    have b4 := b3.trans (bb4.mono b3.size)
    have r_4 := r_3.below bb4
    go_wp2_with fail
    refine (HU.out _ vo _ ro0 (HT.out.below b4 (by omega))).mono ?_
    rintro e w5 ⟨rfl, bb5⟩
    have b5 := b4.trans (bb5.mono b4.size)
    have r_5 := r_4.below bb5
    have ro_5 := ro0.below bb5
    go_wp2_with fail
    refine (HC.out _ v _ r_5 (HT.out.below b5 (by omega))).mono ?_
    rintro e w6 ⟨rfl, bb6⟩
    have b6 := b5.trans (bb6.mono b5.size)
    have r_6 := r_5.below bb6
    have ro_6 := ro_5.below bb6
    obtain ⟨A1, c1, rfl, _⟩ := r_6.seen
    have hs := HSUM.out
    clear HSUM
    go_wp2
    go_ret
    exact ⟨by simp, b6⟩
  · have HI := Lib.hid (fun B v w => implFr_no B v L h w)
    have HS := Lib.hid (fun B v w => specFr_no B v L h w)
    clear h
    go_wp2_with fail
    refine (HI.out _ v _ r (HT.out.below b1 (by omega))).mono ?_
    rintro e w2 ⟨rfl, bb2⟩
    have b2 := b1.trans (bb2.mono b1.size)
    have r_2 := r.below bb2
    go_wp2_with fail
    refine (HS.out _ v _ r_2).mono ?_
    rintro e w3 ⟨rfl, bb3⟩
    have b3 := b2.trans (bb3.mono b2.size)
    have r_3 := r_2.below bb3
    go_wp2
    go_ret
    exact ⟨by simp, b3⟩
end Go.Proofs.YtfhaeocgbihddaaDoor
