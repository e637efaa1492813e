/- The law FnLeast returns true and leaves all that was there as it was, whatever list is drawn. -/
import Derived.Test.YtcemhepojjbcgaaDoorBaseF
import Derived.Test.YtcemhepojjbcgaaDoorBaseE
import Derived.Test.YtcemhepojjbcgaaDoorBaseL
namespace Go.Proofs.YtcemhepojjbcgaaDoor
open Go Go.RowKit
set_option linter.unusedVariables false
set_option maxRecDepth 100000

theorem least_graph {L : List Int} (h : IsGraph L) : ∃ G : List Int, IsGraph G ∧ G.length = L.length ∧ codeOf G = leastL L ∧ leastL G = leastL L ∧ edgesN G = edgesN L ∧ leastL L ≤ codeOf L := by
  obtain ⟨P, hP, e⟩ := least_is h
  have hid := perms_names L.length L.length _ (range_perms _ _ (Nat.le_refl _))
  exact ⟨namedL L P, named_graph h hP, namedL_length L P, e.symm, least_named h hP, edges_named h hP, by have h1 := least_le (L := L) hid; rw [named_id h] at h1; exact h1⟩

set_option maxHeartbeats 800000 in
theorem fnLeast_long (A : Option Addr) (n c : Nat) (w : World) (h : 1048576 < n) (hm : n ≤ maxLen) :
    Calls Tryd.prog 5 #[.slice A n c] w (Fine w) := by
  unfold maxLen at hm
  have hd : decide ((1048576 : Int) < (n : Int)) = true := by simp; omega
  go_enter Tryd.func5, Tryd.ntmps5
  go_wp2
  go_ret
  exact ⟨rfl, Below.refl _ _⟩

set_option maxHeartbeats 4000000 in
theorem fnLeast_short (A : Option Addr) (n c : Nat) (w : World) (hs : n ≤ 1048576) (hT : Tab w)
    (hD : Calls Tryd.prog 24 #[.slice A n c] w (Drew6 w)) :
    Calls Tryd.prog 5 #[.slice A n c] w (Fine w) := by
  have h2 := hT.lt
  have hd : decide ((1048576 : Int) < (n : Int)) = false := by simp; omega
  have HD := Lib.hid hD
  have HT := Lib.hid hT
  clear hD hT hs
  go_enter Tryd.func5, Tryd.ntmps5
  go_wp2_with fail
  refine HD.out.mono ?_
  rintro e w1 ⟨v, L, rfl, l1, l6, r, b1⟩
  by_cases h : IsGraph L
  · obtain ⟨G, hG, hl, hc, hlt, he, hle⟩ := least_graph h
    have HC := Lib.hid (fun B v w => implAlikeLeast_yes B v L h w)
    have HS := Lib.hid (fun B v w => specAlikeLeast_yes B v L h w)
    have hO := ofSaid_code hG
    rw [hc, hl] at hO
    have HO := Lib.hid (fun w => implGraphOf_any (L.length : Int) (leastL L : Int) w)
    rw [hO] at HO
    have HK := Lib.hid (fun B v w => implGraphCode_yes B v L h w)
    have HC2 := Lib.hid (fun B v w => implAlikeLeast_yes B v G hG w)
    rw [hlt] at HC2
    have HA := Lib.hid (fun B B' v v' w h1 h2 hT => implAlike_graphs B B' v v' L G true h hG w h1 h2 hT (fun A A' c c' w s1 s2 hT => by have h0 := alike_any A A' c c' L G h hG hl.symm w s1 s2 hT; rw [he, hlt] at h0; simpa using h0))
    obtain ⟨x, ex⟩ : ∃ x, x = leastL L := ⟨_, rfl⟩
    obtain ⟨y, ey⟩ : ∃ y, y = codeOf L := ⟨_, rfl⟩
    rw [← ex] at HC HS HO HC2 hle
    rw [← ey] at HK hle
    clear h hG hl hc hlt he hO ex ey
    have hdx : decide ((x : Int) ≤ (y : Int)) = true := by simp; omega
    go_wp2_with fail
    refine (HC.out _ v _ r (HT.out.below b1 (by omega))).mono ?_
    rintro e w2 ⟨rfl, bb2⟩
    have b2 := b1.trans (bb2.mono b1.size)
    have r_2 := r.below bb2
    go_wp2_with fail
    refine (HS.out _ v _ r_2).mono ?_
    rintro e w3 ⟨rfl, bb3⟩
    have b3 := b2.trans (bb3.mono b2.size)
    have r_3 := r_2.below bb3
    obtain ⟨A1, c1, rfl, _⟩ := r_3.seen
    go_wp2_with fail
    refine (HO.out _).mono ?_
    rintro e w4 ⟨vx, rfl, rx0, bb4⟩
    have b4 := b3.trans (bb4.mono b3.size)
    have r_4 := r_3.below bb4
    go_wp2_with fail
    refine (HK.out _ _ _ r_4 (HT.out.below b4 (by omega))).mono ?_
    rintro e w5 ⟨rfl, bb5⟩
    have b5 := b4.trans (bb5.mono b4.size)
    have r_5 := r_4.below bb5
    have rx_5 := rx0.below bb5
    go_wp2_with fail
    refine (HC2.out _ vx _ rx_5 (HT.out.below b5 (by omega))).mono ?_
    rintro e w6 ⟨rfl, bb6⟩
    have b6 := b5.trans (bb6.mono b5.size)
    have r_6 := r_5.below bb6
    have rx_6 := rx_5.below bb6
    go_wp2_with fail
    refine (HA.out _ _ _ vx _ r_6 rx_6 (HT.out.below b6 (by omega))).mono ?_
    rintro e w7 ⟨rfl, bb7⟩
    have b7 := b6.trans (bb7.mono b6.size)
    have r_7 := r_6.below bb7
    have rx_7 := rx_6.below bb7
    go_wp2
    go_ret
    exact ⟨by simp, b7⟩
  · have HC := Lib.hid (fun B v w => implAlikeLeast_no B v L h w)
    have HS := Lib.hid (fun B v w => specAlikeLeast_no B v L h w)
    clear h
    go_wp2_with fail
    refine (HC.out _ v _ r (HT.out.below b1 (by omega))).mono ?_
    rintro e w2 ⟨rfl, bb2⟩
    have b2 := b1.trans (bb2.mono b1.size)
    have r_2 := r.below bb2
    go_wp2_with fail
    refine (HS.out _ v _ r_2).mono ?_
    rintro e w3 ⟨rfl, bb3⟩
    have b3 := b2.trans (bb3.mono b2.size)
    have r_3 := r_2.below bb3
    go_wp2
    go_ret
    exact ⟨by simp, b3⟩
end Go.Proofs.YtcemhepojjbcgaaDoor
