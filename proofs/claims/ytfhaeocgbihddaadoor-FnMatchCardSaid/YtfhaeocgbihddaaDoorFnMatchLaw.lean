/- The law FnMatch returns true and leaves all that was there as it was, whatever list is drawn. -/
import Derived.Test.YtfhaeocgbihddaaDoorBaseF
import Derived.Test.YtfhaeocgbihddaaDoorSpecMatch
import Derived.Test.YtfhaeocgbihddaaDoorMatchFns
import Derived.Test.YtfhaeocgbihddaaDoorImplEdges
import Derived.Test.YtfhaeocgbihddaaDoorPromSets
namespace Go.Proofs.YtfhaeocgbihddaaDoor
open Go Go.RowKit
set_option linter.unusedVariables false
set_option maxRecDepth 100000

set_option maxHeartbeats 800000 in
theorem fnMatch_long (A : Option Addr) (n c : Nat) (w : World) (h : 1048576 < n) (hm : n ≤ maxLen) :
    Calls Tryd.prog 5 #[.slice A n c] w (Fine w) := by
  unfold maxLen at hm
  have hd : decide ((1048576 : Int) < (n : Int)) = true := by simp; omega
  go_enter Tryd.func5, Tryd.ntmps5
  go_wp2
  go_ret
  exact ⟨rfl, Below.refl _ _⟩

set_option maxHeartbeats 4000000 in
theorem fnMatch_short (A : Option Addr) (n c : Nat) (w : World) (hs : n ≤ 1048576) (hT : Tab w)
    (hD : Calls Tryd.prog 17 #[.slice A n c] w (Drew6 w)) :
    Calls Tryd.prog 5 #[.slice A n c] w (Fine w) := by
  have h2 := hT.lt
  have hd : decide ((1048576 : Int) < (n : Int)) = false := by simp; omega
  have HD := Lib.hid hD
  have HT := Lib.hid hT
  clear hD hT hs
  go_enter Tryd.func5, Tryd.ntmps5
  go_wp2_with fail
  refine HD.out.mono ?_
  rintro e w1 ⟨v, L, rfl, l1, l6, r, b1⟩
  by_cases h : IsGraph L
  · have HI := Lib.hid (fun B v w => implMa_yes B v L h w)
    have HS := Lib.hid (fun B v w => specMa_yes B v L h w)
    have HE := Lib.hid (fun B v w => implGraphEdges_yes B v L h w)
    have hm := mat_half h
    have hz := mat_zero h
    have hx := edgesN_le L
    obtain ⟨m, em⟩ : ∃ m, m = matN L := ⟨_, rfl⟩
    rw [← em] at HI HS hm hz
    obtain ⟨x, ex⟩ : ∃ x, x = edgesN L := ⟨_, rfl⟩
    rw [← ex] at HE hz hx
    have hs : decide (2 * (m : Int) ≤ (L.length : Int)) = true := by simp; omega
    have hb : ((m : Int) == 0) = ((x : Int) == 0) := by rw [Bool.eq_iff_iff, beq_iff_eq, beq_iff_eq]; omega
    have HSUM := Lib.hid (And.intro hs hb)
    have hb6 : m ≤ 6 := by omega
    clear h em ex hm hs hb hz
    go_wp2_with fail
    refine (HI.out _ v _ r (HT.out.below b1 (by omega))).mono ?_
    rintro e w2 ⟨rfl, bb2⟩
    have b2 := b1.trans (bb2.mono b1.size)
    have r_2 := r.below bb2
    go_wp2_with fail
    refine (HS.out _ v _ r_2).mono ?_
    rintro e w3 ⟨rfl, bb3⟩
    have b3 := b2.trans (bb3.mono b2.size)
    have r_3 := r_2.below bb3
    go_wp2_with fail
    refine (HE.out _ v _ r_3 (HT.out.below b3 (by omega))).mono ?_
    rintro e w4 ⟨rfl, bb4⟩
    have b4 := b3.trans (bb4.mono b3.size)
    have r_4 := r_3.below bb4
    obtain ⟨A1, c1, rfl, _⟩ := r_4.seen
    obtain ⟨hs, hb⟩ := HSUM.out
    clear HSUM
    go_wp2
    go_ret
    exact ⟨by simp, b4⟩
  · have HI := Lib.hid (fun B v w => implMa_no B v L h w)
    have HS := Lib.hid (fun B v w => specMa_no B v L h w)
    clear h
    go_wp2_with fail
    refine (HI.out _ v _ r (HT.out.below b1 (by omega))).mono ?_
    rintro e w2 ⟨rfl, bb2⟩
    have b2 := b1.trans (bb2.mono b1.size)
    have r_2 := r.below bb2
    go_wp2_with fail
    refine (HS.out _ v _ r_2).mono ?_
    rintro e w3 ⟨rfl, bb3⟩
    have b3 := b2.trans (bb3.mono b2.size)
    have r_3 := r_2.below bb3
    go_wp2
    go_ret
    exact ⟨by simp, b3⟩
end Go.Proofs.YtfhaeocgbihddaaDoor
