/- The law FnAlike returns true and leaves all that was there as it was, whatever two lists are drawn. -/
import Derived.Test.YtcemhepojjbcgaaDoorDrawPair
import Derived.Test.YtcemhepojjbcgaaDoorAlikePair
import Derived.Test.YtcemhepojjbcgaaDoorImplOther
namespace Go.Proofs.YtcemhepojjbcgaaDoor
open Go Go.RowKit
set_option linter.unusedVariables false
set_option maxRecDepth 100000

set_option maxHeartbeats 800000 in
theorem fnAlike_long (A : Option Addr) (n c : Nat) (w : World) (h : 1048576 < n) (hm : n ≤ maxLen) :
    Calls Tryd.prog 3 #[.slice A n c] w (Fine w) := by
  unfold maxLen at hm
  have hd : decide ((1048576 : Int) < (n : Int)) = true := by simp; omega
  go_enter Tryd.func3, Tryd.ntmps3
  go_wp2
  go_ret
  exact ⟨rfl, Below.refl _ _⟩

set_option maxHeartbeats 4000000 in
theorem fnAlike_short (A : Option Addr) (n c : Nat) (w : World) (hs : n ≤ 1048576) (hT : Tab w)
    (hD : Calls Tryd.prog 15 #[.slice A n c] w (DrewTwo 5 6 w)) :
    Calls Tryd.prog 3 #[.slice A n c] w (Fine w) := by
  have h2 := hT.lt
  have hd : decide ((1048576 : Int) < (n : Int)) = false := by simp; omega
  have HD := Lib.hid hD
  have HT := Lib.hid hT
  clear hD hT hs
  go_enter Tryd.func3, Tryd.ntmps3
  go_wp2_with fail
  refine HD.out.mono ?_
  rintro e w1 ⟨v, L, v2, M, rfl, l1, l2, r, rs, b1⟩
  obtain ⟨b, hb, hS, hI⟩ := alike_all L M
  cases b with
  | true =>
    have hk := hb.1 rfl
    have HS := Lib.hid hS
    have HI := Lib.hid hI
    obtain ⟨F, ok, hok, _, _, _, _, hF⟩ := first_all L M
    obtain rfl : ok = true := hok.2 hk
    have HF := Lib.hid hF
    have HO := Lib.hid (fun B v w => implGraphOther_yes B v L hk.1 w)
    have HP := Lib.hid (fun B v w => implGraphOther_yes B v M hk.2.1 w)
    obtain ⟨bs, hbs, _, hIs⟩ := alike_all M L
    obtain rfl : bs = true := hbs.2 (like_sym hk)
    have HIS := Lib.hid hIs
    obtain ⟨bo, hbo, _, hIo⟩ := alike_all (otherL L L.length) (otherL M M.length)
    obtain rfl : bo = true := hbo.2 (like_other hk)
    have HIO := Lib.hid hIo
    obtain ⟨X, eX⟩ : ∃ X, X = otherL L L.length := ⟨_, rfl⟩
    obtain ⟨Y, eY⟩ : ∃ Y, Y = otherL M M.length := ⟨_, rfl⟩
    rw [← eX] at HO HIO
    rw [← eY] at HP HIO
    clear hb hS hI hk hok hF hbs hIs hbo hIo eX eY
    go_wp2_with fail
    refine (HI.out _ _ v v2 _ r rs (HT.out.below b1 (by omega))).mono ?_
    rintro e w2 ⟨rfl, bb2⟩
    have b2 := b1.trans (bb2.mono b1.size)
    have r_2 := r.below bb2
    have s_2 := rs.below bb2
    go_wp2_with fail
    refine (HS.out _ _ v v2 _ r_2 s_2).mono ?_
    rintro e w3 ⟨rfl, bb3⟩
    have b3 := b2.trans (bb3.mono b2.size)
    have r_3 := r_2.below bb3
    have s_3 := s_2.below bb3
    go_wp2_with fail
    refine (HF.out _ _ v v2 _ r_3 s_3 (HT.out.below b3 (by omega))).mono ?_
    rintro e w4 ⟨vf, rfl, rf0, bb4⟩
    have b4 := b3.trans (bb4.mono b3.size)
    have r_4 := r_3.below bb4
    have s_4 := s_3.below bb4
    go_wp2_with fail
    refine (HO.out _ v _ r_4 (HT.out.below b4 (by omega))).mono ?_
    rintro e w5 ⟨vx, rfl, rx0, bb5⟩
    have b5 := b4.trans (bb5.mono b4.size)
    have r_5 := r_4.below bb5
    have s_5 := s_4.below bb5
    have rf_5 := rf0.below bb5
    go_wp2_with fail
    refine (HP.out _ v2 _ s_5 (HT.out.below b5 (by omega))).mono ?_
    rintro e w6 ⟨vy, rfl, ry0, bb6⟩
    have b6 := b5.trans (bb6.mono b5.size)
    have r_6 := r_5.below bb6
    have s_6 := s_5.below bb6
    have rf_6 := rf_5.below bb6
    have rx_6 := rx0.below bb6
    go_wp2_with fail
    refine (HIS.out _ _ v2 v _ s_6 r_6 (HT.out.below b6 (by omega))).mono ?_
    rintro e w7 ⟨rfl, bb7⟩
    have b7 := b6.trans (bb7.mono b6.size)
    have r_7 := r_6.below bb7
    have s_7 := s_6.below bb7
    have rf_7 := rf_6.below bb7
    have rx_7 := rx_6.below bb7
    have ry_7 := ry0.below bb7
    go_wp2_with fail
    refine (HIO.out _ _ vx vy _ rx_7 ry_7 (HT.out.below b7 (by omega))).mono ?_
    rintro e w8 ⟨rfl, bb8⟩
    have b8 := b7.trans (bb8.mono b7.size)
    have r_8 := r_7.below bb8
    have s_8 := s_7.below bb8
    have rf_8 := rf_7.below bb8
    have rx_8 := rx_7.below bb8
    have ry_8 := ry_7.below bb8
    go_wp2
    go_ret
    exact ⟨by simp, b8⟩
  | false =>
    have HS := Lib.hid hS
    have HI := Lib.hid hI
    clear hb hS hI
    go_wp2_with fail
    refine (HI.out _ _ v v2 _ r rs (HT.out.below b1 (by omega))).mono ?_
    rintro e w2 ⟨rfl, bb2⟩
    have b2 := b1.trans (bb2.mono b1.size)
    have r_2 := r.below bb2
    have s_2 := rs.below bb2
    go_wp2_with fail
    refine (HS.out _ _ v v2 _ r_2 s_2).mono ?_
    rintro e w3 ⟨rfl, bb3⟩
    have b3 := b2.trans (bb3.mono b2.size)
    have r_3 := r_2.below bb3
    have s_3 := s_2.below bb3
    go_wp2
    go_ret
    exact ⟨by simp, b3⟩
end Go.Proofs.YtcemhepojjbcgaaDoor
