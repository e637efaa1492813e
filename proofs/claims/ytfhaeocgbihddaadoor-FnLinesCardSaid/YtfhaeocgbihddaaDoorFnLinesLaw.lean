/- The law FnLines returns true and leaves all that was there as it was, whatever list is drawn. -/
import Derived.Test.YtfhaeocgbihddaaDoorBaseF
import Derived.Test.YtfhaeocgbihddaaDoorSpecMatch
import Derived.Test.YtfhaeocgbihddaaDoorMatchFns
import Derived.Test.YtfhaeocgbihddaaDoorBaseS
import Derived.Test.YtfhaeocgbihddaaDoorPromSets
namespace Go.Proofs.YtfhaeocgbihddaaDoor
open Go Go.RowKit
set_option linter.unusedVariables false
set_option maxRecDepth 100000

set_option maxHeartbeats 800000 in
theorem fnLines_long (A : Option Addr) (n c : Nat) (w : World) (h : 1048576 < n) (hm : n ≤ maxLen) :
    Calls Tryd.prog 6 #[.slice A n c] w (Fine w) := by
  unfold maxLen at hm
  have hd : decide ((1048576 : Int) < (n : Int)) = true := by simp; omega
  go_enter Tryd.func6, Tryd.ntmps6
  go_wp2
  go_ret
  exact ⟨rfl, Below.refl _ _⟩

set_option maxHeartbeats 4000000 in
theorem fnLines_short (A : Option Addr) (n c : Nat) (w : World) (hs : n ≤ 1048576) (hT : Tab w)
    (hD : Calls Tryd.prog 21 #[.slice A n c] w (Drew6 w)) :
    Calls Tryd.prog 6 #[.slice A n c] w (Fine w) := by
  have h2 := hT.lt
  have hd : decide ((1048576 : Int) < (n : Int)) = false := by simp; omega
  have HD := Lib.hid hD
  have HT := Lib.hid hT
  clear hD hT hs
  go_enter Tryd.func6, Tryd.ntmps6
  go_wp2_with fail
  refine HD.out.mono ?_
  rintro e w1 ⟨v, L, rfl, l1, l6, r, b1⟩
  have hl : L.length ≤ 1048576 := by omega
  by_cases h : IsGraph L
  · by_cases hz : HasZ L
    · have HI := Lib.hid (fun B v w => implLi_zero B v L hl hz w)
      have HS := Lib.hid (fun B v w => specLi_yes B v L h w)
      rw [show linesP L = (0, false) from if_pos hz] at HS
      clear h hz
      go_wp2_with fail
      refine (HI.out _ v _ r (HT.out.below b1 (by omega))).mono ?_
      rintro e w2 ⟨rfl, bb2⟩
      have b2 := b1.trans (bb2.mono b1.size)
      have r_2 := r.below bb2
      go_wp2_with fail
      refine (HS.out _ v _ r_2).mono ?_
      rintro e w3 ⟨rfl, bb3⟩
      have b3 := b2.trans (bb3.mono b2.size)
      have r_3 := r_2.below bb3
      go_wp2
      go_ret
      exact ⟨by simp, b3⟩
    · have HI := Lib.hid (fun B v w => implLi_yes B v L h hz w)
      have HS := Lib.hid (fun B v w => specLi_yes B v L h w)
      rw [show linesP L = (L.length - matN L, true) from if_neg hz] at HS
      have HM := Lib.hid (fun B v w => implMa_yes B v L h w)
      have HF := Lib.hid (fun B v w => implFr_yes B v L h w)
      have hm := free_lines h
      obtain ⟨m, em⟩ : ∃ m, m = matN L := ⟨_, rfl⟩
      rw [← em] at HI HS HM hm
      obtain ⟨f, ef⟩ : ∃ f, f = mostN L := ⟨_, rfl⟩
      rw [← ef] at HF hm
      dsimp only at HS
      obtain ⟨k, ek⟩ : ∃ k, k = L.length - m := ⟨_, rfl⟩
      rw [← ek] at HI HS
      have hs : (k : Int) + (m : Int) = (L.length : Int) := by omega
      have hs2 : decide ((f : Int) ≤ (k : Int)) = true := by simp; omega
      have HSUM := Lib.hid (And.intro hs hs2)
      have HK : Hid (f ≤ k) := Lib.hid (by omega)
      have hb : m ≤ 6 ∧ k ≤ 6 ∧ f ≤ 6 := by omega
      clear h em ef ek hm hs hs2 hz
      go_wp2_with fail
      refine (HI.out _ v _ r (HT.out.below b1 (by omega))).mono ?_
      rintro e w2 ⟨rfl, bb2⟩
      have b2 := b1.trans (bb2.mono b1.size)
      have r_2 := r.below bb2
      go_wp2_with fail
      refine (HS.out _ v _ r_2).mono ?_
      rintro e w3 ⟨rfl, bb3⟩
      have b3 := b2.trans (bb3.mono b2.size)
      have r_3 := r_2.below bb3
      go_wp2_with fail
      refine (HM.out _ v _ r_3 (HT.out.below b3 (by omega))).mono ?_
      rintro e w4 ⟨rfl, bb4⟩
      have b4 := b3.trans (bb4.mono b3.size)
      have r_4 := r_3.below bb4
      go_wp2_with fail
      refine (HF.out _ v _ r_4 (HT.out.below b4 (by omega))).mono ?_
      rintro e w5 ⟨rfl, bb5⟩
      have b5 := b4.trans (bb5.mono b4.size)
      have r_5 := r_4.below bb5
      obtain ⟨A1, c1, rfl, _⟩ := r_5.seen
      obtain ⟨hs, hs2⟩ := HSUM.out
      clear HSUM
      go_wp2
      go_ret
      exact ⟨by simp; exact HK.out, b5⟩
  · have HI : Hid (∀ B v w, Row w B v L → Tab w → Calls Tryd.prog 22 #[v] w (NumOkA w 0 false)) := Lib.hid (fun B v w hr ht => by
      by_cases hz : HasZ L
      · exact implLi_zero B v L hl hz w hr ht
      · exact implLi_no B v L hl h hz w hr ht)
    have HS := Lib.hid (fun B v w => specLi_no B v L h w)
    clear h
    go_wp2_with fail
    refine (HI.out _ v _ r (HT.out.below b1 (by omega))).mono ?_
    rintro e w2 ⟨rfl, bb2⟩
    have b2 := b1.trans (bb2.mono b1.size)
    have r_2 := r.below bb2
    go_wp2_with fail
    refine (HS.out _ v _ r_2).mono ?_
    rintro e w3 ⟨rfl, bb3⟩
    have b3 := b2.trans (bb3.mono b2.size)
    have r_3 := r_2.below bb3
    go_wp2
    go_ret
    exact ⟨by simp, b3⟩
end Go.Proofs.YtfhaeocgbihddaaDoor
