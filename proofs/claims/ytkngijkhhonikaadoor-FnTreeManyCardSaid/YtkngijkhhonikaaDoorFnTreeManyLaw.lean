/- The law FnTreeMany returns true and leaves all that was there as it was, whatever is drawn. -/
import Derived.Test.YtkngijkhhonikaaDoorDrawTreeMany
import Derived.Test.YtkngijkhhonikaaDoorTreeMany
import Derived.Test.YtkngijkhhonikaaDoorTreesFn
import Derived.Test.YtkngijkhhonikaaDoorGraphOf
import Derived.Test.YtkngijkhhonikaaDoorTreeProms
namespace Go.Proofs.YtkngijkhhonikaaDoor
open Go Go.RowKit
set_option linter.unusedVariables false
set_option maxRecDepth 100000

theorem whole_1 : treesN (codeG 1 0) = 1 := by rw [lenIn_is (by omega) (by omega) (by decide)]; decide +kernel
theorem whole_2 : treesN (codeG 2 1) = 1 := by rw [lenIn_is (by omega) (by omega) (by decide)]; decide +kernel
theorem whole_3 : treesN (codeG 3 7) = 3 := by rw [lenIn_is (by omega) (by omega) (by decide)]; decide +kernel
theorem whole_4 : treesN (codeG 4 63) = 16 := by rw [lenIn_is (by omega) (by omega) (by decide)]; decide +kernel
theorem whole_5 : treesN (codeG 5 1023) = 125 := by rw [trees5 (by decide)]; decide +kernel
theorem whole_6 : treesN (codeG 6 32767) = 1296 := by rw [trees6 (by decide)]; decide +kernel
set_option maxHeartbeats 800000 in
theorem fnTreeMany_long (A : Option Addr) (n c : Nat) (w : World) (h : 1048576 < n) (hm : n ≤ maxLen) :
    Calls Tryd.prog 4 #[.slice A n c] w (Fine w) := by
  unfold maxLen at hm
  have hd : decide ((1048576 : Int) < (n : Int)) = true := by simp; omega
  go_enter Tryd.func4, Tryd.ntmps4
  go_wp2
  go_ret
  exact ⟨rfl, Below.refl _ _⟩

set_option maxHeartbeats 4000000 in
theorem fnTreeMany_short (A : Option Addr) (n c : Nat) (w : World) (hs : n ≤ 1048576) (hT : Tab w)
    (hD : Calls Tryd.prog 16 #[.slice A n c] w (DrewN8 w)) :
    Calls Tryd.prog 4 #[.slice A n c] w (Fine w) := by
  have h2 := hT.lt
  have hd : decide ((1048576 : Int) < (n : Int)) = false := by simp; omega
  have HD := Lib.hid hD
  have HT := Lib.hid hT
  clear hD hT hs
  go_enter Tryd.func4, Tryd.ntmps4
  go_wp2_with fail
  refine HD.out.mono ?_
  rintro e w1 ⟨x, hx, rfl, b1⟩
  have hc : x = 0 ∨ x = 7 ∨ x = 1 ∨ x = 2 ∨ x = 3 ∨ x = 4 ∨ x = 5 ∨ x = 6 := by omega
  have HM := Lib.hid (fun (z : Int) w => implMany_any z w)
  have HS := Lib.hid (fun (z : Int) w => specMany_any z w)
  clear hx
  rcases hc with rfl | rfl | rfl | rfl | rfl | rfl | rfl | rfl
  · have hm : manyT ((0 : Nat) : Int) = (0, false) := rfl
    have H1 := Lib.hid (HM.out ((0 : Nat) : Int) w1)
    have H2 := Lib.hid (HS.out ((0 : Nat) : Int) w1)
    rw [hm] at H1 H2
    clear hm HM HS
    go_wp2_with fail
    refine H1.out.mono ?_
    rintro e w2 ⟨rfl, rfl⟩
    go_wp2_with fail
    refine H2.out.mono ?_
    rintro e w3 ⟨rfl, rfl⟩
    go_wp2
    go_ret
    exact ⟨by simp, b1⟩
  · have hm : manyT ((7 : Nat) : Int) = (0, false) := rfl
    have H1 := Lib.hid (HM.out ((7 : Nat) : Int) w1)
    have H2 := Lib.hid (HS.out ((7 : Nat) : Int) w1)
    rw [hm] at H1 H2
    clear hm HM HS
    go_wp2_with fail
    refine H1.out.mono ?_
    rintro e w2 ⟨rfl, rfl⟩
    go_wp2_with fail
    refine H2.out.mono ?_
    rintro e w3 ⟨rfl, rfl⟩
    go_wp2
    go_ret
    exact ⟨by simp, b1⟩
  · have hm : manyT ((1 : Nat) : Int) = (1, true) := rfl
    have H1 := Lib.hid (HM.out ((1 : Nat) : Int) w1)
    have H2 := Lib.hid (HS.out ((1 : Nat) : Int) w1)
    rw [hm] at H1 H2
    have HO := Lib.hid (fun w => implGraphOf_any ((1 : Nat) : Int) ((0 : Nat) : Int) w)
    rw [ofSaid_in (n := 1) (c := 0) (by decide) (by decide) (by decide)] at HO
    have HN := Lib.hid (fun B v w => implTrees_any B v (codeG 1 0) w)
    rw [oneSaid_yes (codeG_graph (n := 1) 0 (by decide) (by decide)), whole_1] at HN
    obtain ⟨M, eM⟩ : ∃ M, M = codeG 1 0 := ⟨_, rfl⟩
    rw [← eM] at HO HN
    clear hm HM HS eM
    go_wp2_with fail
    refine H1.out.mono ?_
    rintro e w2 ⟨rfl, rfl⟩
    go_wp2_with fail
    refine H2.out.mono ?_
    rintro e w3 ⟨rfl, rfl⟩
    go_wp2_with fail
    refine (HO.out _).mono ?_
    rintro e w4 ⟨vx, rfl, rx, bb4⟩
    have b4 := b1.trans (bb4.mono b1.size)
    go_wp2_with fail
    refine (HN.out _ vx _ rx (HT.out.below b4 (by omega))).mono ?_
    rintro e w5 ⟨rfl, bb5⟩
    have b5 := b4.trans (bb5.mono b4.size)
    go_wp2
    go_ret
    exact ⟨by simp, b5⟩
  · have hm : manyT ((2 : Nat) : Int) = (1, true) := rfl
    have H1 := Lib.hid (HM.out ((2 : Nat) : Int) w1)
    have H2 := Lib.hid (HS.out ((2 : Nat) : Int) w1)
    rw [hm] at H1 H2
    have HO := Lib.hid (fun w => implGraphOf_any ((2 : Nat) : Int) ((1 : Nat) : Int) w)
    rw [ofSaid_in (n := 2) (c := 1) (by decide) (by decide) (by decide)] at HO
    have HN := Lib.hid (fun B v w => implTrees_any B v (codeG 2 1) w)
    rw [oneSaid_yes (codeG_graph (n := 2) 1 (by decide) (by decide)), whole_2] at HN
    obtain ⟨M, eM⟩ : ∃ M, M = codeG 2 1 := ⟨_, rfl⟩
    rw [← eM] at HO HN
    clear hm HM HS eM
    go_wp2_with fail
    refine H1.out.mono ?_
    rintro e w2 ⟨rfl, rfl⟩
    go_wp2_with fail
    refine H2.out.mono ?_
    rintro e w3 ⟨rfl, rfl⟩
    go_wp2_with fail
    refine (HO.out _).mono ?_
    rintro e w4 ⟨vx, rfl, rx, bb4⟩
    have b4 := b1.trans (bb4.mono b1.size)
    go_wp2_with fail
    refine (HN.out _ vx _ rx (HT.out.below b4 (by omega))).mono ?_
    rintro e w5 ⟨rfl, bb5⟩
    have b5 := b4.trans (bb5.mono b4.size)
    go_wp2
    go_ret
    exact ⟨by simp, b5⟩
  · have hm : manyT ((3 : Nat) : Int) = (3, true) := rfl
    have H1 := Lib.hid (HM.out ((3 : Nat) : Int) w1)
    have H2 := Lib.hid (HS.out ((3 : Nat) : Int) w1)
    rw [hm] at H1 H2
    have HO := Lib.hid (fun w => implGraphOf_any ((3 : Nat) : Int) ((7 : Nat) : Int) w)
    rw [ofSaid_in (n := 3) (c := 7) (by decide) (by decide) (by decide)] at HO
    have HN := Lib.hid (fun B v w => implTrees_any B v (codeG 3 7) w)
    rw [oneSaid_yes (codeG_graph (n := 3) 7 (by decide) (by decide)), whole_3] at HN
    obtain ⟨M, eM⟩ : ∃ M, M = codeG 3 7 := ⟨_, rfl⟩
    rw [← eM] at HO HN
    clear hm HM HS eM
    go_wp2_with fail
    refine H1.out.mono ?_
    rintro e w2 ⟨rfl, rfl⟩
    go_wp2_with fail
    refine H2.out.mono ?_
    rintro e w3 ⟨rfl, rfl⟩
    go_wp2_with fail
    refine (HO.out _).mono ?_
    rintro e w4 ⟨vx, rfl, rx, bb4⟩
    have b4 := b1.trans (bb4.mono b1.size)
    go_wp2_with fail
    refine (HN.out _ vx _ rx (HT.out.below b4 (by omega))).mono ?_
    rintro e w5 ⟨rfl, bb5⟩
    have b5 := b4.trans (bb5.mono b4.size)
    go_wp2
    go_ret
    exact ⟨by simp, b5⟩
  · have hm : manyT ((4 : Nat) : Int) = (16, true) := rfl
    have H1 := Lib.hid (HM.out ((4 : Nat) : Int) w1)
    have H2 := Lib.hid (HS.out ((4 : Nat) : Int) w1)
    rw [hm] at H1 H2
    have HO := Lib.hid (fun w => implGraphOf_any ((4 : Nat) : Int) ((63 : Nat) : Int) w)
    rw [ofSaid_in (n := 4) (c := 63) (by decide) (by decide) (by decide)] at HO
    have HN := Lib.hid (fun B v w => implTrees_any B v (codeG 4 63) w)
    rw [oneSaid_yes (codeG_graph (n := 4) 63 (by decide) (by decide)), whole_4] at HN
    obtain ⟨M, eM⟩ : ∃ M, M = codeG 4 63 := ⟨_, rfl⟩
    rw [← eM] at HO HN
    clear hm HM HS eM
    go_wp2_with fail
    refine H1.out.mono ?_
    rintro e w2 ⟨rfl, rfl⟩
    go_wp2_with fail
    refine H2.out.mono ?_
    rintro e w3 ⟨rfl, rfl⟩
    go_wp2_with fail
    refine (HO.out _).mono ?_
    rintro e w4 ⟨vx, rfl, rx, bb4⟩
    have b4 := b1.trans (bb4.mono b1.size)
    go_wp2_with fail
    refine (HN.out _ vx _ rx (HT.out.below b4 (by omega))).mono ?_
    rintro e w5 ⟨rfl, bb5⟩
    have b5 := b4.trans (bb5.mono b4.size)
    go_wp2
    go_ret
    exact ⟨by simp, b5⟩
  · have hm : manyT ((5 : Nat) : Int) = (125, true) := rfl
    have H1 := Lib.hid (HM.out ((5 : Nat) : Int) w1)
    have H2 := Lib.hid (HS.out ((5 : Nat) : Int) w1)
    rw [hm] at H1 H2
    have HO := Lib.hid (fun w => implGraphOf_any ((5 : Nat) : Int) ((1023 : Nat) : Int) w)
    rw [ofSaid_in (n := 5) (c := 1023) (by decide) (by decide) (by decide)] at HO
    have HN := Lib.hid (fun B v w => implTrees_any B v (codeG 5 1023) w)
    rw [oneSaid_yes (codeG_graph (n := 5) 1023 (by decide) (by decide)), whole_5] at HN
    obtain ⟨M, eM⟩ : ∃ M, M = codeG 5 1023 := ⟨_, rfl⟩
    rw [← eM] at HO HN
    clear hm HM HS eM
    go_wp2_with fail
    refine H1.out.mono ?_
    rintro e w2 ⟨rfl, rfl⟩
    go_wp2_with fail
    refine H2.out.mono ?_
    rintro e w3 ⟨rfl, rfl⟩
    go_wp2_with fail
    refine (HO.out _).mono ?_
    rintro e w4 ⟨vx, rfl, rx, bb4⟩
    have b4 := b1.trans (bb4.mono b1.size)
    go_wp2_with fail
    refine (HN.out _ vx _ rx (HT.out.below b4 (by omega))).mono ?_
    rintro e w5 ⟨rfl, bb5⟩
    have b5 := b4.trans (bb5.mono b4.size)
    go_wp2
    go_ret
    exact ⟨by simp, b5⟩
  · have hm : manyT ((6 : Nat) : Int) = (1296, true) := rfl
    have H1 := Lib.hid (HM.out ((6 : Nat) : Int) w1)
    have H2 := Lib.hid (HS.out ((6 : Nat) : Int) w1)
    rw [hm] at H1 H2
    have HO := Lib.hid (fun w => implGraphOf_any ((6 : Nat) : Int) ((32767 : Nat) : Int) w)
    rw [ofSaid_in (n := 6) (c := 32767) (by decide) (by decide) (by decide)] at HO
    have HN := Lib.hid (fun B v w => implTrees_any B v (codeG 6 32767) w)
    rw [oneSaid_yes (codeG_graph (n := 6) 32767 (by decide) (by decide)), whole_6] at HN
    obtain ⟨M, eM⟩ : ∃ M, M = codeG 6 32767 := ⟨_, rfl⟩
    rw [← eM] at HO HN
    clear hm HM HS eM
    go_wp2_with fail
    refine H1.out.mono ?_
    rintro e w2 ⟨rfl, rfl⟩
    go_wp2_with fail
    refine H2.out.mono ?_
    rintro e w3 ⟨rfl, rfl⟩
    go_wp2_with fail
    refine (HO.out _).mono ?_
    rintro e w4 ⟨vx, rfl, rx, bb4⟩
    have b4 := b1.trans (bb4.mono b1.size)
    go_wp2_with fail
    refine (HN.out _ vx _ rx (HT.out.below b4 (by omega))).mono ?_
    rintro e w5 ⟨rfl, bb5⟩
    have b5 := b4.trans (bb5.mono b4.size)
    go_wp2
    go_ret
    exact ⟨by simp, b5⟩
end Go.Proofs.YtkngijkhhonikaaDoor
