/- The law FnFirst returns true and leaves all that was there as it was, whatever two lists are drawn. -/
import Derived.Test.YtcemhepojjbcgaaDoorDrawPair
import Derived.Test.YtcemhepojjbcgaaDoorAlikePair
import Derived.Test.YtcemhepojjbcgaaDoorNamedLaw
import Derived.Test.YtcemhepojjbcgaaDoorSameInts
namespace Go.Proofs.YtcemhepojjbcgaaDoor
open Go Go.RowKit
set_option linter.unusedVariables false
set_option maxRecDepth 100000

set_option maxHeartbeats 800000 in
theorem fnFirst_long (A : Option Addr) (n c : Nat) (w : World) (h : 1048576 < n) (hm : n ≤ maxLen) :
    Calls Tryd.prog 4 #[.slice A n c] w (Fine w) := by
  unfold maxLen at hm
  have hd : decide ((1048576 : Int) < (n : Int)) = true := by simp; omega
  go_enter Tryd.func4, Tryd.ntmps4
  go_wp2
  go_ret
  exact ⟨rfl, Below.refl _ _⟩

set_option maxHeartbeats 4000000 in
theorem fnFirst_short (A : Option Addr) (n c : Nat) (w : World) (hs : n ≤ 1048576) (hT : Tab w)
    (hD : Calls Tryd.prog 20 #[.slice A n c] w (DrewTwo 5 6 w)) :
    Calls Tryd.prog 4 #[.slice A n c] w (Fine w) := by
  have h2 := hT.lt
  have hd : decide ((1048576 : Int) < (n : Int)) = false := by simp; omega
  have HD := Lib.hid hD
  have HT := Lib.hid hT
  clear hD hT hs
  go_enter Tryd.func4, Tryd.ntmps4
  go_wp2_with fail
  refine HD.out.mono ?_
  rintro e w1 ⟨v, L, v2, M, rfl, l1, l2, r, rs, b1⟩
  obtain ⟨F, ok, hok, hFl, hF0, hFP, hS, hF⟩ := first_all L M
  cases ok with
  | true =>
    have hk := hok.1 rfl
    obtain ⟨P, hP, eF, eM⟩ := hFP rfl
    have HS := Lib.hid hS
    have HF := Lib.hid hF
    have HN := Lib.hid (fun B B' v v' w => implGNamed_both B B' v v' L (ints P) hk.1 (names_is hP) w)
    have hNM : ints (mrun L L.length (nm (ints P)) (grid L.length L.length)) = M := eM
    rw [hNM, ← eF] at HN
    obtain ⟨bs, hbs, _, hIs⟩ := alike_all L M
    obtain rfl : bs = true := hbs.2 hk
    have HI := Lib.hid hIs
    have HFL := Lib.hid hFl
    have HML := Lib.hid (show M.length ≤ 1000 by omega)
    clear hok hFl hF0 hFP hS hF hk hP eF eM hNM hbs hIs
    go_wp2_with fail
    refine (HF.out _ _ v v2 _ r rs (HT.out.below b1 (by omega))).mono ?_
    rintro e w2 ⟨vf, rfl, rf0, bb2⟩
    have b2 := b1.trans (bb2.mono b1.size)
    have r_2 := r.below bb2
    have s_2 := rs.below bb2
    go_wp2_with fail
    refine (HS.out _ _ v v2 _ r_2 s_2).mono ?_
    rintro e w3 ⟨vt, rfl, rt0, bb3⟩
    have b3 := b2.trans (bb3.mono b2.size)
    have r_3 := r_2.below bb3
    have s_3 := s_2.below bb3
    have rf_3 := rf0.below bb3
    go_wp2_with fail
    refine (sameI_yes _ _ vf vt F _ rf_3 rt0 (by have := HFL.out; omega)).mono ?_
    rintro e w4 ⟨rfl, d4, rfl⟩
    have b4 := below_drewN b3 d4
    have r_4 := r_3.drewN d4
    have s_4 := s_3.drewN d4
    have rf_4 := rf_3.drewN d4
    have rt_4 := rt0.drewN d4
    go_wp2_with fail
    refine (HN.out _ _ v vf _ r_4 rf_4 (HT.out.below b4 (by omega))).mono ?_
    rintro e w5 ⟨vx, rfl, rx0, bb5⟩
    have b5 := b4.trans (bb5.mono b4.size)
    have r_5 := r_4.below bb5
    have s_5 := s_4.below bb5
    have rf_5 := rf_4.below bb5
    have rt_5 := rt_4.below bb5
    go_wp2_with fail
    refine (sameI_yes _ _ vx v2 M _ rx0 s_5 (by have := HML.out; omega)).mono ?_
    rintro e w6 ⟨rfl, d6, rfl⟩
    have b6 := below_drewN b5 d6
    have r_6 := r_5.drewN d6
    have s_6 := s_5.drewN d6
    have rf_6 := rf_5.drewN d6
    have rt_6 := rt_5.drewN d6
    have rx_6 := rx0.drewN d6
    go_wp2_with fail
    refine (HI.out _ _ v v2 _ r_6 s_6 (HT.out.below b6 (by omega))).mono ?_
    rintro e w7 ⟨rfl, bb7⟩
    have b7 := b6.trans (bb7.mono b6.size)
    have r_7 := r_6.below bb7
    have s_7 := s_6.below bb7
    have rf_7 := rf_6.below bb7
    have rt_7 := rt_6.below bb7
    have rx_7 := rx_6.below bb7
    go_wp2
    go_ret
    exact ⟨by simp, b7⟩
  | false =>
    obtain rfl := hF0 rfl
    have HS := Lib.hid hS
    have HF := Lib.hid hF
    clear hok hFl hF0 hFP hS hF
    go_wp2_with fail
    refine (HF.out _ _ v v2 _ r rs (HT.out.below b1 (by omega))).mono ?_
    rintro e w2 ⟨vf, rfl, rf0, bb2⟩
    have b2 := b1.trans (bb2.mono b1.size)
    have r_2 := r.below bb2
    have s_2 := rs.below bb2
    go_wp2_with fail
    refine (HS.out _ _ v v2 _ r_2 s_2).mono ?_
    rintro e w3 ⟨vt, rfl, rt0, bb3⟩
    have b3 := b2.trans (bb3.mono b2.size)
    have r_3 := r_2.below bb3
    have s_3 := s_2.below bb3
    have rf_3 := rf0.below bb3
    go_wp2_with fail
    refine (sameI_yes _ _ vf vt [] _ rf_3 rt0 (by simp)).mono ?_
    rintro e w4 ⟨rfl, d4, rfl⟩
    have b4 := below_drewN b3 d4
    have r_4 := r_3.drewN d4
    have s_4 := s_3.drewN d4
    have rf_4 := rf_3.drewN d4
    have rt_4 := rt0.drewN d4
    go_wp2_with fail
    refine (sameI_yes _ _ vf vt [] _ rf_4 rt_4 (by simp)).mono ?_
    rintro e w5 ⟨rfl, d5, rfl⟩
    have b5 := below_drewN b4 d5
    have r_5 := r_4.drewN d5
    have s_5 := s_4.drewN d5
    have rf_5 := rf_4.drewN d5
    have rt_5 := rt_4.drewN d5
    go_wp2
    go_ret
    exact ⟨by simp, by simpa using b5⟩
end Go.Proofs.YtcemhepojjbcgaaDoor
