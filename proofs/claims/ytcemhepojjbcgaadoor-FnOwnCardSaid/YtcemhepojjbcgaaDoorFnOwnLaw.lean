/- The law FnOwn returns true and leaves all that was there as it was, whatever list is drawn. -/
import Derived.Test.YtcemhepojjbcgaaDoorBaseF
import Derived.Test.YtcemhepojjbcgaaDoorOwnLaw
import Derived.Test.YtcemhepojjbcgaaDoorImplEdges
import Derived.Test.YtcemhepojjbcgaaDoorLinkedLaw
import Derived.Test.YtcemhepojjbcgaaDoorOwnMath
namespace Go.Proofs.YtcemhepojjbcgaaDoor
open Go Go.RowKit
set_option linter.unusedVariables false
set_option maxRecDepth 100000

set_option maxHeartbeats 800000 in
theorem fnOwn_long (A : Option Addr) (n c : Nat) (w : World) (h : 1048576 < n) (hm : n ≤ maxLen) :
    Calls Tryd.prog 10 #[.slice A n c] w (Fine w) := by
  unfold maxLen at hm
  have hd : decide ((1048576 : Int) < (n : Int)) = true := by simp; omega
  go_enter Tryd.func10, Tryd.ntmps10
  go_wp2
  go_ret
  exact ⟨rfl, Below.refl _ _⟩

set_option maxHeartbeats 4000000 in
theorem fnOwn_short (A : Option Addr) (n c : Nat) (w : World) (hs : n ≤ 1048576) (hT : Tab w)
    (hD : Calls Tryd.prog 43 #[.slice A n c] w (Drew6 w)) :
    Calls Tryd.prog 10 #[.slice A n c] w (Fine w) := by
  have h2 := hT.lt
  have hd : decide ((1048576 : Int) < (n : Int)) = false := by simp; omega
  have HD := Lib.hid hD
  have HT := Lib.hid hT
  clear hD hT hs
  go_enter Tryd.func10, Tryd.ntmps10
  go_wp2_with fail
  refine HD.out.mono ?_
  rintro e w1 ⟨v, L, rfl, l1, l6, r, b1⟩
  by_cases h : IsGraph L
  · by_cases ho : ownB L = true
    · have HC := Lib.hid (fun B v w => implAlikeOwn_yes B v L h w)
      have HS := Lib.hid (fun B v w => specAlikeOwn_yes B v L h w)
      have HE := Lib.hid (fun B v w => implGraphEdges_yes B v L h w)
      obtain ⟨hmo, hlk⟩ := own_facts h ho
      have hxl := edgesN_le L
      have HLK := Lib.hid (fun B v w => implLinked_any B v L true ⟨fun _ => hlk, fun _ => rfl⟩ w)
      rw [ho] at HC HS
      obtain ⟨x, ex⟩ : ∃ x, x = edgesN L := ⟨_, rfl⟩
      rw [← ex] at HE hmo hxl
      have HMO := Lib.hid hmo
      clear h ex hmo hlk ho
      go_wp2_with fail
      refine (HC.out _ v _ r (HT.out.below b1 (by omega))).mono ?_
      rintro e w2 ⟨rfl, bb2⟩
      have b2 := b1.trans (bb2.mono b1.size)
      have r_2 := r.below bb2
      go_wp2_with fail
      refine (HS.out _ v _ r_2).mono ?_
      rintro e w3 ⟨rfl, bb3⟩
      have b3 := b2.trans (bb3.mono b2.size)
      have r_3 := r_2.below bb3
      go_wp2_with fail
      refine (HE.out _ v _ r_3 (HT.out.below b3 (by omega))).mono ?_
      rintro e w4 ⟨rfl, bb4⟩
      have b4 := b3.trans (bb4.mono b3.size)
      have r_4 := r_3.below bb4
      obtain ⟨A1, c1, rfl, _⟩ := r_4.seen
      have BB := Lib.hid b4
      have R := Lib.hid r_4
      have hmo := HMO.out
      have hn6 : L.length = 1 ∨ L.length = 2 ∨ L.length = 3 ∨ L.length = 4 ∨ L.length = 5 ∨ L.length = 6 := by omega
      obtain ⟨W0, eW0⟩ : ∃ W0, W0 = w4 := ⟨_, rfl⟩
      rw [← eW0] at BB R ⊢
      clear HMO HC HS HE HD eW0 r_4 b4
      have fin : ∀ q : Nat, q = L.length * (L.length - 1) → 4 * x = q := fun q e => by rw [e]; exact hmo
      clear hmo
      rcases hn6 with hn | hn | hn | hn | hn | hn
      · have hmo := fin 0 (by rw [hn])
        rw [hn] at R ⊢
        clear fin hn l1 l6
        have e3 : ((4 : Int) * (x : Int) == 0) = true := by simp; omega
        clear hmo
        go_wp2_with fail
        refine (HLK.out _ _ _ R.out (HT.out.below BB.out (by omega))).mono ?_
        rintro e wz ⟨rfl, bz⟩
        have bzz := BB.out.trans (bz.mono BB.out.size)
        go_wp2
        go_ret
        exact ⟨by simp, bzz⟩
      · have hmo := fin 2 (by rw [hn])
        omega
      · have hmo := fin 6 (by rw [hn])
        omega
      · have hmo := fin 12 (by rw [hn])
        rw [hn] at R ⊢
        clear fin hn l1 l6
        have e3 : ((4 : Int) * (x : Int) == 12) = true := by simp; omega
        clear hmo
        go_wp2_with fail
        refine (HLK.out _ _ _ R.out (HT.out.below BB.out (by omega))).mono ?_
        rintro e wz ⟨rfl, bz⟩
        have bzz := BB.out.trans (bz.mono BB.out.size)
        go_wp2
        go_ret
        exact ⟨by simp, bzz⟩
      · have hmo := fin 20 (by rw [hn])
        rw [hn] at R ⊢
        clear fin hn l1 l6
        have e3 : ((4 : Int) * (x : Int) == 20) = true := by simp; omega
        clear hmo
        go_wp2_with fail
        refine (HLK.out _ _ _ R.out (HT.out.below BB.out (by omega))).mono ?_
        rintro e wz ⟨rfl, bz⟩
        have bzz := BB.out.trans (bz.mono BB.out.size)
        go_wp2
        go_ret
        exact ⟨by simp, bzz⟩
      · have hmo := fin 30 (by rw [hn])
        omega
    · have hof : ownB L = false := by simpa using ho
      have HC := Lib.hid (fun B v w => implAlikeOwn_yes B v L h w)
      have HS := Lib.hid (fun B v w => specAlikeOwn_yes B v L h w)
      rw [hof] at HC HS
      clear h ho hof
      go_wp2_with fail
      refine (HC.out _ v _ r (HT.out.below b1 (by omega))).mono ?_
      rintro e w2 ⟨rfl, bb2⟩
      have b2 := b1.trans (bb2.mono b1.size)
      have r_2 := r.below bb2
      go_wp2_with fail
      refine (HS.out _ v _ r_2).mono ?_
      rintro e w3 ⟨rfl, bb3⟩
      have b3 := b2.trans (bb3.mono b2.size)
      have r_3 := r_2.below bb3
      go_wp2
      go_ret
      exact ⟨by simp, b3⟩
  · have HC := Lib.hid (fun B v w => implAlikeOwn_no B v L h w)
    have HS := Lib.hid (fun B v w => specAlikeOwn_no B v L h w)
    clear h
    go_wp2_with fail
    refine (HC.out _ v _ r (HT.out.below b1 (by omega))).mono ?_
    rintro e w2 ⟨rfl, bb2⟩
    have b2 := b1.trans (bb2.mono b1.size)
    have r_2 := r.below bb2
    go_wp2_with fail
    refine (HS.out _ v _ r_2).mono ?_
    rintro e w3 ⟨rfl, bb3⟩
    have b3 := b2.trans (bb3.mono b2.size)
    have r_3 := r_2.below bb3
    go_wp2
    go_ret
    exact ⟨by simp, b3⟩
end Go.Proofs.YtcemhepojjbcgaaDoor
