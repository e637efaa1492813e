/- The law FnOther returns true and leaves all that was there as it was, whatever list is drawn. -/
import Derived.Test.YtjkepoalepmjoaaDoorDrawSome
import Derived.Test.YtjkepoalepmjoaaDoorImplOther
import Derived.Test.YtjkepoalepmjoaaDoorOther
import Derived.Test.YtjkepoalepmjoaaDoorLinkedLaw
import Derived.Test.YtjkepoalepmjoaaDoorSameInts
import Derived.Test.YtjkepoalepmjoaaDoorPromLinked
import Derived.Test.YtjkepoalepmjoaaDoorPromCode
namespace Go.Proofs.YtjkepoalepmjoaaDoor
open Go Go.RowKit
set_option linter.unusedVariables false
set_option maxRecDepth 100000

set_option maxHeartbeats 800000 in
theorem fnOther_long (A : Option Addr) (n c : Nat) (w : World) (h : 1048576 < n) (hm : n ≤ maxLen) :
    Calls Tryd.prog 7 #[.slice A n c] w (Fine w) := by
  unfold maxLen at hm
  have hd : decide ((1048576 : Int) < (n : Int)) = true := by simp; omega
  go_enter Tryd.func7, Tryd.ntmps7
  go_wp2
  go_ret
  exact ⟨rfl, Below.refl _ _⟩

set_option maxHeartbeats 4000000 in
theorem fnOther_short (A : Option Addr) (n c : Nat) (w : World) (hs : n ≤ 1048576) (hT : Tab w)
    (hD : Calls Tryd.prog 29 #[.slice A n c] w (Drew6 w)) :
    Calls Tryd.prog 7 #[.slice A n c] w (Fine w) := by
  have h2 := hT.lt
  have hd : decide ((1048576 : Int) < (n : Int)) = false := by simp; omega
  have HD := Lib.hid hD
  have HT := Lib.hid hT
  clear hD hT hs
  go_enter Tryd.func7, Tryd.ntmps7
  go_wp2_with fail
  refine HD.out.mono ?_
  rintro e w1 ⟨v, L, rfl, l1, l6, r, b1⟩
  by_cases h : IsGraph L
  · have HC := Lib.hid (fun B v w => implGraphOther_yes B v L h w)
    have HS := Lib.hid (fun B v w => specGraphOther_yes B v L h w)
    have HC2 := Lib.hid (fun B v w => implGraphOther_yes B v (otherL L L.length) (other_graph h) w)
    rw [other_other h] at HC2
    have hex : ∃ b1 b2 : Bool, (b1 = true ↔ IsLinked L) ∧ (b2 = true ↔ IsLinked (otherL L L.length)) ∧ (b1 = true ∨ b2 = true) := by
      classical
      exact ⟨decide (IsLinked L), decide (IsLinked (otherL L L.length)), by simp, by simp, by simpa using linked_or h⟩
    obtain ⟨q1, q2, e1, e2, hq⟩ := hex
    have HL1 := Lib.hid (fun B v w => implLinked_any B v L q1 e1 w)
    have HL2 := Lib.hid (fun B v w => implLinked_any B v (otherL L L.length) q2 e2 w)
    have hml : (otherL L L.length).length ≤ 6 := by rw [otherL_length]; exact l6
    obtain ⟨M, eM⟩ : ∃ M, M = otherL L L.length := ⟨_, rfl⟩
    rw [← eM] at HC HS HC2 HL2 hml
    clear h e1 e2 eM
    go_wp2_with fail
    refine (HC.out _ v _ r (HT.out.below b1 (by omega))).mono ?_
    rintro e w2 ⟨vo, rfl, ro0, bb2⟩
    have b2 := b1.trans (bb2.mono b1.size)
    have r_2 := r.below bb2
    go_wp2_with fail
    refine (HS.out _ v _ r_2).mono ?_
    rintro e w3 ⟨vs, rfl, rs0, bb3⟩
    have b3 := b2.trans (bb3.mono b2.size)
    have r_3 := r_2.below bb3
    have ro_3 := ro0.below bb3
    go_wp2_with fail
    refine (sameI_yes _ _ vo vs M _ ro_3 rs0 (by omega)).mono ?_
    rintro e w4 ⟨rfl, d4, rfl⟩
    have b4 := below_drewN b3 d4
    have r_4 := r_3.drewN d4
    have ro_4 := ro_3.drewN d4
    have rs_4 := rs0.drewN d4
    go_wp2_with fail
    refine (HC2.out _ vo _ ro_4 (HT.out.below b4 (by omega))).mono ?_
    rintro e w5 ⟨vx, rfl, rx0, bb5⟩
    have b5 := b4.trans (bb5.mono b4.size)
    have r_5 := r_4.below bb5
    have ro_5 := ro_4.below bb5
    have rs_5 := rs_4.below bb5
    go_wp2_with fail
    refine (sameI_yes _ _ vx v L _ rx0 r_5 (by omega)).mono ?_
    rintro e w6 ⟨rfl, d6, rfl⟩
    have b6 := below_drewN b5 d6
    have r_6 := r_5.drewN d6
    have ro_6 := ro_5.drewN d6
    have rs_6 := rs_5.drewN d6
    have rx_6 := rx0.drewN d6
    cases q1 with
    | true =>
      go_wp2_with fail
      refine (HL1.out _ v _ r_6 (HT.out.below b6 (by omega))).mono ?_
      rintro e w7 ⟨rfl, bb7⟩
      have b7 := b6.trans (bb7.mono b6.size)
      have r_7 := r_6.below bb7
      have ro_7 := ro_6.below bb7
      have rs_7 := rs_6.below bb7
      have rx_7 := rx_6.below bb7
      go_wp2
      go_ret
      exact ⟨by simp, b7⟩
    | false =>
      have hq2 : q2 = true := by simpa using hq
      subst hq2
      clear hq
      go_wp2_with fail
      refine (HL1.out _ v _ r_6 (HT.out.below b6 (by omega))).mono ?_
      rintro e w7 ⟨rfl, bb7⟩
      have b7 := b6.trans (bb7.mono b6.size)
      have r_7 := r_6.below bb7
      have ro_7 := ro_6.below bb7
      have rs_7 := rs_6.below bb7
      have rx_7 := rx_6.below bb7
      go_wp2_with fail
      refine (HL2.out _ vo _ ro_7 (HT.out.below b7 (by omega))).mono ?_
      rintro e w8 ⟨rfl, bb8⟩
      have b8 := b7.trans (bb8.mono b7.size)
      have r_8 := r_7.below bb8
      have ro_8 := ro_7.below bb8
      have rs_8 := rs_7.below bb8
      have rx_8 := rx_7.below bb8
      go_wp2
      go_ret
      exact ⟨by simp, b8⟩
  · have HC := Lib.hid (fun B v w => implGraphOther_no B v L h w)
    have HS := Lib.hid (fun B v w => specGraphOther_no B v L h w)
    clear h
    go_wp2_with fail
    refine (HC.out _ v _ r (HT.out.below b1 (by omega))).mono ?_
    rintro e w2 ⟨vd, rfl, rd0, bb2⟩
    have b2 := b1.trans (bb2.mono b1.size)
    have r_2 := r.below bb2
    go_wp2_with fail
    refine (HS.out _ v _ r_2).mono ?_
    rintro e w3 ⟨vs, rfl, rs0, bb3⟩
    have b3 := b2.trans (bb3.mono b2.size)
    have r_3 := r_2.below bb3
    have rd_3 := rd0.below bb3
    go_wp2_with fail
    refine (sameI_yes _ _ vd vs [] _ rd_3 rs0 (by simp)).mono ?_
    rintro e w4 ⟨rfl, d4, rfl⟩
    have b4 := below_drewN b3 d4
    have r_4 := r_3.drewN d4
    have rd_4 := rd_3.drewN d4
    have rs_4 := rs0.drewN d4
    go_wp2_with fail
    refine (sameI_yes _ _ vd vs [] _ rd_4 rs_4 (by simp)).mono ?_
    rintro e w5 ⟨rfl, d5, rfl⟩
    have b5 := below_drewN b4 d5
    have r_5 := r_4.drewN d5
    have rd_5 := rd_4.drewN d5
    have rs_5 := rs_4.drewN d5
    go_wp2
    go_ret
    exact ⟨by simp, by simpa using b5⟩
end Go.Proofs.YtjkepoalepmjoaaDoor
