/- The law FnCode returns true and leaves all that was there as it was, whatever list is drawn. -/
import Derived.Test.YtjkepoalepmjoaaDoorDrawSome
import Derived.Test.YtjkepoalepmjoaaDoorCodeLaw
import Derived.Test.YtjkepoalepmjoaaDoorImplOther
import Derived.Test.YtjkepoalepmjoaaDoorGraphOf
import Derived.Test.YtjkepoalepmjoaaDoorSameInts
import Derived.Test.YtjkepoalepmjoaaDoorPromCode
namespace Go.Proofs.YtjkepoalepmjoaaDoor
open Go Go.RowKit
set_option linter.unusedVariables false
set_option maxRecDepth 100000

set_option maxHeartbeats 800000 in
theorem fnCode_long (A : Option Addr) (n c : Nat) (w : World) (h : 1048576 < n) (hm : n ≤ maxLen) :
    Calls Tryd.prog 4 #[.slice A n c] w (Fine w) := by
  unfold maxLen at hm
  have hd : decide ((1048576 : Int) < (n : Int)) = true := by simp; omega
  go_enter Tryd.func4, Tryd.ntmps4
  go_wp2
  go_ret
  exact ⟨rfl, Below.refl _ _⟩

set_option maxHeartbeats 4000000 in
theorem fnCode_short (A : Option Addr) (n c : Nat) (w : World) (hs : n ≤ 1048576) (hT : Tab w)
    (hD : Calls Tryd.prog 19 #[.slice A n c] w (Drew6 w)) :
    Calls Tryd.prog 4 #[.slice A n c] w (Fine w) := by
  have h2 := hT.lt
  have hd : decide ((1048576 : Int) < (n : Int)) = false := by simp; omega
  have HD := Lib.hid hD
  have HT := Lib.hid hT
  clear hD hT hs
  go_enter Tryd.func4, Tryd.ntmps4
  go_wp2_with fail
  refine HD.out.mono ?_
  rintro e w1 ⟨v, L, rfl, l1, l6, r, b1⟩
  by_cases h : IsGraph L
  · have HC := Lib.hid (fun B v w => implGraphCode_yes B v L h w)
    have HS := Lib.hid (fun B v w => specGraphCode_yes B v L h w)
    have HO := Lib.hid (fun w => implGraphOf_any (L.length : Int) (codeOf L : Int) w)
    have HR := Lib.hid (fun B v w => implGraphOther_yes B v L h w)
    have HC2 := Lib.hid (fun B v w => implGraphCode_yes B v (otherL L L.length) (other_graph h) w)
    rw [ofSaid_code h] at HO
    have HSUM := Lib.hid (other_code h)
    obtain ⟨x, ex⟩ : ∃ x, x = codeOf L := ⟨_, rfl⟩
    obtain ⟨y, ey⟩ : ∃ y, y = codeOf (otherL L L.length) := ⟨_, rfl⟩
    rw [← ey] at HC2 HSUM
    obtain ⟨M, eM⟩ : ∃ M, M = otherL L L.length := ⟨_, rfl⟩
    rw [← eM] at HR HC2
    rw [← ex] at HC HS HO HSUM
    clear h ex ey eM
    go_wp2_with fail
    refine (HC.out _ v _ r (HT.out.below b1 (by omega))).mono ?_
    rintro e w2 ⟨rfl, bb2⟩
    have b2 := b1.trans (bb2.mono b1.size)
    have r_2 := r.below bb2
    go_wp2_with fail
    refine (HS.out _ v _ r_2).mono ?_
    rintro e w3 ⟨rfl, bb3⟩
    have b3 := b2.trans (bb3.mono b2.size)
    have r_3 := r_2.below bb3
    obtain ⟨A1, c1, rfl, _⟩ := r_3.seen
    go_wp2_with fail
    refine (HO.out _).mono ?_
    rintro e w4 ⟨vx, rfl, rx0, bb4⟩
    have b4 := b3.trans (bb4.mono b3.size)
    have r_4 := r_3.below bb4
    go_wp2_with fail
    refine (HR.out _ _ _ r_4 (HT.out.below b4 (by omega))).mono ?_
    rintro e w5 ⟨vo, rfl, ro0, bb5⟩
    have b5 := b4.trans (bb5.mono b4.size)
    have r_5 := r_4.below bb5
    have rx_5 := rx0.below bb5
    go_wp2_with fail
    refine (HC2.out _ vo _ ro0 (HT.out.below b5 (by omega))).mono ?_
    rintro e w6 ⟨rfl, bb6⟩
    have b6 := b5.trans (bb6.mono b5.size)
    have r_6 := r_5.below bb6
    have rx_6 := rx_5.below bb6
    have ro_6 := ro0.below bb6
    go_wp2_with fail
    refine (sameI_yes _ _ vx _ L _ rx_6 r_6 (by omega)).mono ?_
    rintro e w7 ⟨rfl, d7, rfl⟩
    have b7 := below_drewN b6 d7
    have r_7 := r_6.drewN d7
    have rx_7 := rx_6.drewN d7
    have ro_7 := ro_6.drewN d7
    have hn6 : L.length = 1 ∨ L.length = 2 ∨ L.length = 3 ∨ L.length = 4 ∨ L.length = 5 ∨ L.length = 6 := by omega
    have h0 := HSUM.out
    unfold codes at h0
    clear HSUM
    rcases hn6 with hn | hn | hn | hn | hn | hn
    · have hs : (y : Int) + (x : Int) = 0 := by rw [hn] at h0; simp at h0; omega
      have hb : x ≤ 0 ∧ y ≤ 0 := by omega
      clear h0
      go_wp2
      go_ret
      exact ⟨by simp, b7⟩
    · have hs : (y : Int) + (x : Int) = 1 := by rw [hn] at h0; simp at h0; omega
      have hb : x ≤ 1 ∧ y ≤ 1 := by omega
      clear h0
      go_wp2
      go_ret
      exact ⟨by simp, b7⟩
    · have hs : (y : Int) + (x : Int) = 7 := by rw [hn] at h0; simp at h0; omega
      have hb : x ≤ 7 ∧ y ≤ 7 := by omega
      clear h0
      go_wp2
      go_ret
      exact ⟨by simp, b7⟩
    · have hs : (y : Int) + (x : Int) = 63 := by rw [hn] at h0; simp at h0; omega
      have hb : x ≤ 63 ∧ y ≤ 63 := by omega
      clear h0
      go_wp2
      go_ret
      exact ⟨by simp, b7⟩
    · have hs : (y : Int) + (x : Int) = 1023 := by rw [hn] at h0; simp at h0; omega
      have hb : x ≤ 1023 ∧ y ≤ 1023 := by omega
      clear h0
      go_wp2
      go_ret
      exact ⟨by simp, b7⟩
    · have hs : (y : Int) + (x : Int) = 32767 := by rw [hn] at h0; simp at h0; omega
      have hb : x ≤ 32767 ∧ y ≤ 32767 := by omega
      clear h0
      go_wp2
      go_ret
      exact ⟨by simp, b7⟩
  · have HC := Lib.hid (fun B v w => implGraphCode_no B v L h w)
    have HS := Lib.hid (fun B v w => specGraphCode_no B v L h w)
    clear h
    go_wp2_with fail
    refine (HC.out _ v _ r (HT.out.below b1 (by omega))).mono ?_
    rintro e w2 ⟨rfl, bb2⟩
    have b2 := b1.trans (bb2.mono b1.size)
    have r_2 := r.below bb2
    go_wp2_with fail
    refine (HS.out _ v _ r_2).mono ?_
    rintro e w3 ⟨rfl, bb3⟩
    have b3 := b2.trans (bb3.mono b2.size)
    have r_3 := r_2.below bb3
    go_wp2
    go_ret
    exact ⟨by simp, b3⟩
end Go.Proofs.YtjkepoalepmjoaaDoor
