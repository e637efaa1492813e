/- The law FnMany returns true and leaves all that was there as it was, whatever list is drawn. -/
import Derived.Test.YtcemhepojjbcgaaDoorBaseF
import Derived.Test.YtcemhepojjbcgaaDoorManyLaw
import Derived.Test.YtcemhepojjbcgaaDoorImplEdges
import Derived.Test.YtcemhepojjbcgaaDoorFlat
namespace Go.Proofs.YtcemhepojjbcgaaDoor
open Go Go.RowKit
set_option linter.unusedVariables false
set_option maxRecDepth 100000

set_option maxHeartbeats 800000 in
theorem fnMany_long (A : Option Addr) (n c : Nat) (w : World) (h : 1048576 < n) (hm : n ≤ maxLen) :
    Calls Tryd.prog 9 #[.slice A n c] w (Fine w) := by
  unfold maxLen at hm
  have hd : decide ((1048576 : Int) < (n : Int)) = true := by simp; omega
  go_enter Tryd.func9, Tryd.ntmps9
  go_wp2
  go_ret
  exact ⟨rfl, Below.refl _ _⟩

set_option maxHeartbeats 4000000 in
theorem fnMany_short (A : Option Addr) (n c : Nat) (w : World) (hs : n ≤ 1048576) (hT : Tab w)
    (hD : Calls Tryd.prog 40 #[.slice A n c] w (Drew6 w)) :
    Calls Tryd.prog 9 #[.slice A n c] w (Fine w) := by
  have h2 := hT.lt
  have hd : decide ((1048576 : Int) < (n : Int)) = false := by simp; omega
  have HD := Lib.hid hD
  have HT := Lib.hid hT
  clear hD hT hs
  go_enter Tryd.func9, Tryd.ntmps9
  go_wp2_with fail
  refine HD.out.mono ?_
  rintro e w1 ⟨v, L, rfl, l1, l6, r, b1⟩
  by_cases h : IsGraph L
  · have HC := Lib.hid (fun B v w => implAlikeMany_yes B v L h w)
    have HS := Lib.hid (fun B v w => specAlikeMany_yes B v L h w)
    have HE := Lib.hid (fun B v w => implGraphEdges_yes B v L h w)
    have hmo := many_one h
    have hxl := edgesN_le L
    obtain ⟨x, ex⟩ : ∃ x, x = edgesN L := ⟨_, rfl⟩
    obtain ⟨y, ey⟩ : ∃ y, y = manyN L := ⟨_, rfl⟩
    rw [← ey] at HC HS hmo
    rw [← ex] at HE hmo hxl
    have HMO := Lib.hid hmo
    clear h ex ey hmo
    go_wp2_with fail
    refine (HC.out _ v _ r (HT.out.below b1 (by omega))).mono ?_
    rintro e w2 ⟨rfl, bb2⟩
    have b2 := b1.trans (bb2.mono b1.size)
    have r_2 := r.below bb2
    go_wp2_with fail
    refine (HS.out _ v _ r_2).mono ?_
    rintro e w3 ⟨rfl, bb3⟩
    have b3 := b2.trans (bb3.mono b2.size)
    have r_3 := r_2.below bb3
    go_wp2_with fail
    refine (HE.out _ v _ r_3 (HT.out.below b3 (by omega))).mono ?_
    rintro e w4 ⟨rfl, bb4⟩
    have b4 := b3.trans (bb4.mono b3.size)
    have r_4 := r_3.below bb4
    obtain ⟨A1, c1, rfl, _⟩ := r_4.seen
    have BB := Lib.hid b4
    have hmo := HMO.out
    have hn6 : L.length = 1 ∨ L.length = 2 ∨ L.length = 3 ∨ L.length = 4 ∨ L.length = 5 ∨ L.length = 6 := by omega
    obtain ⟨W0, eW0⟩ : ∃ W0, W0 = w4 := ⟨_, rfl⟩
    rw [← eW0] at BB ⊢
    clear HMO HC HS HE HT HD  eW0
    have fin : ∀ q : Nat, q = L.length * (L.length - 1) → (y = 1 ↔ (x = 0 ∨ 2 * x = q)) := fun q e => by rw [e]; exact hmo
    clear hmo
    rcases hn6 with hn | hn | hn | hn | hn | hn
    · have hmo := fin 0 (by rw [hn])
      rw [hn]
      clear fin hn
      by_cases hy : y = 1
      · have e1 : ((y : Int) == 1) = true := by simp; omega
        by_cases hx : x = 0
        · have e2 : ((x : Int) == 0) = true := by simp; omega
          clear hmo
          go_wp2
          go_ret
          exact ⟨by simp, BB.out⟩
        · have e2 : ((x : Int) == 0) = false := by simp; omega
          have e3 : ((2 : Int) * (x : Int) == 0) = true := by simp; omega
          clear hmo
          go_wp2
          go_ret
          exact ⟨by simp, BB.out⟩
      · have e1 : ((y : Int) == 1) = false := by simp; omega
        have e2 : ((x : Int) == 0) = false := by simp; omega
        have e3 : ((2 : Int) * (x : Int) == 0) = false := by simp; omega
        clear hmo
        go_wp2
        go_ret
        exact ⟨by simp, BB.out⟩
    · have hmo := fin 2 (by rw [hn])
      rw [hn]
      clear fin hn
      by_cases hy : y = 1
      · have e1 : ((y : Int) == 1) = true := by simp; omega
        by_cases hx : x = 0
        · have e2 : ((x : Int) == 0) = true := by simp; omega
          clear hmo
          go_wp2
          go_ret
          exact ⟨by simp, BB.out⟩
        · have e2 : ((x : Int) == 0) = false := by simp; omega
          have e3 : ((2 : Int) * (x : Int) == 2) = true := by simp; omega
          clear hmo
          go_wp2
          go_ret
          exact ⟨by simp, BB.out⟩
      · have e1 : ((y : Int) == 1) = false := by simp; omega
        have e2 : ((x : Int) == 0) = false := by simp; omega
        have e3 : ((2 : Int) * (x : Int) == 2) = false := by simp; omega
        clear hmo
        go_wp2
        go_ret
        exact ⟨by simp, BB.out⟩
    · have hmo := fin 6 (by rw [hn])
      rw [hn]
      clear fin hn
      by_cases hy : y = 1
      · have e1 : ((y : Int) == 1) = true := by simp; omega
        by_cases hx : x = 0
        · have e2 : ((x : Int) == 0) = true := by simp; omega
          clear hmo
          go_wp2
          go_ret
          exact ⟨by simp, BB.out⟩
        · have e2 : ((x : Int) == 0) = false := by simp; omega
          have e3 : ((2 : Int) * (x : Int) == 6) = true := by simp; omega
          clear hmo
          go_wp2
          go_ret
          exact ⟨by simp, BB.out⟩
      · have e1 : ((y : Int) == 1) = false := by simp; omega
        have e2 : ((x : Int) == 0) = false := by simp; omega
        have e3 : ((2 : Int) * (x : Int) == 6) = false := by simp; omega
        clear hmo
        go_wp2
        go_ret
        exact ⟨by simp, BB.out⟩
    · have hmo := fin 12 (by rw [hn])
      rw [hn]
      clear fin hn
      by_cases hy : y = 1
      · have e1 : ((y : Int) == 1) = true := by simp; omega
        by_cases hx : x = 0
        · have e2 : ((x : Int) == 0) = true := by simp; omega
          clear hmo
          go_wp2
          go_ret
          exact ⟨by simp, BB.out⟩
        · have e2 : ((x : Int) == 0) = false := by simp; omega
          have e3 : ((2 : Int) * (x : Int) == 12) = true := by simp; omega
          clear hmo
          go_wp2
          go_ret
          exact ⟨by simp, BB.out⟩
      · have e1 : ((y : Int) == 1) = false := by simp; omega
        have e2 : ((x : Int) == 0) = false := by simp; omega
        have e3 : ((2 : Int) * (x : Int) == 12) = false := by simp; omega
        clear hmo
        go_wp2
        go_ret
        exact ⟨by simp, BB.out⟩
    · have hmo := fin 20 (by rw [hn])
      rw [hn]
      clear fin hn
      by_cases hy : y = 1
      · have e1 : ((y : Int) == 1) = true := by simp; omega
        by_cases hx : x = 0
        · have e2 : ((x : Int) == 0) = true := by simp; omega
          clear hmo
          go_wp2
          go_ret
          exact ⟨by simp, BB.out⟩
        · have e2 : ((x : Int) == 0) = false := by simp; omega
          have e3 : ((2 : Int) * (x : Int) == 20) = true := by simp; omega
          clear hmo
          go_wp2
          go_ret
          exact ⟨by simp, BB.out⟩
      · have e1 : ((y : Int) == 1) = false := by simp; omega
        have e2 : ((x : Int) == 0) = false := by simp; omega
        have e3 : ((2 : Int) * (x : Int) == 20) = false := by simp; omega
        clear hmo
        go_wp2
        go_ret
        exact ⟨by simp, BB.out⟩
    · have hmo := fin 30 (by rw [hn])
      rw [hn]
      clear fin hn
      by_cases hy : y = 1
      · have e1 : ((y : Int) == 1) = true := by simp; omega
        by_cases hx : x = 0
        · have e2 : ((x : Int) == 0) = true := by simp; omega
          clear hmo
          go_wp2
          go_ret
          exact ⟨by simp, BB.out⟩
        · have e2 : ((x : Int) == 0) = false := by simp; omega
          have e3 : ((2 : Int) * (x : Int) == 30) = true := by simp; omega
          clear hmo
          go_wp2
          go_ret
          exact ⟨by simp, BB.out⟩
      · have e1 : ((y : Int) == 1) = false := by simp; omega
        have e2 : ((x : Int) == 0) = false := by simp; omega
        have e3 : ((2 : Int) * (x : Int) == 30) = false := by simp; omega
        clear hmo
        go_wp2
        go_ret
        exact ⟨by simp, BB.out⟩
  · have HC := Lib.hid (fun B v w => implAlikeMany_no B v L h w)
    have HS := Lib.hid (fun B v w => specAlikeMany_no B v L h w)
    clear h
    go_wp2_with fail
    refine (HC.out _ v _ r (HT.out.below b1 (by omega))).mono ?_
    rintro e w2 ⟨rfl, bb2⟩
    have b2 := b1.trans (bb2.mono b1.size)
    have r_2 := r.below bb2
    go_wp2_with fail
    refine (HS.out _ v _ r_2).mono ?_
    rintro e w3 ⟨rfl, bb3⟩
    have b3 := b2.trans (bb3.mono b2.size)
    have r_3 := r_2.below bb3
    go_wp2
    go_ret
    exact ⟨by simp, b3⟩
end Go.Proofs.YtcemhepojjbcgaaDoor
