/- The law FnExactSetLines returns true at each list, and leaves all that was there as it was; out of what the two functions tell. -/
import Derived.Test.YtcblcifnpgmibaaDoorBaseA
import Derived.Test.YtcblcifnpgmibaaDoorSpecMatch
import Derived.Test.YtcblcifnpgmibaaDoorMatchFns
namespace Go.Proofs.YtcblcifnpgmibaaDoor
open Go.RowKit
set_option linter.unusedVariables false
set_option maxRecDepth 100000

set_option maxHeartbeats 800000 in
theorem setLinesLaw_long (A : Option Addr) (n c : Nat) (w : World) (h : 1048576 < n) (hm : n ≤ maxLen) :
    Calls Tryd.prog 8 #[.slice A n c] w (Fine w) := by
  unfold maxLen at hm
  have hd : decide ((1048576 : Int) < (n : Int)) = true := by simp; omega
  go_enter Tryd.func8, Tryd.ntmps8
  go_wp2
  go_ret
  exact ⟨rfl, Below.refl _ _⟩

set_option maxHeartbeats 800000 in
/-- A law of a number and a bool, out of what the two functions tell. -/
theorem setLinesLaw_of (A : Option Addr) (c : Nat) (L : List Int) (w : World) (h : Seen w A L) (hT : Tab w) (hs : L.length ≤ 1048576) (x : Nat) (ok : Bool)
    (hS : ∀ B v w, Row w B v L → Calls Tryd.prog 23 #[v] w (NumOkA w x ok))
    (hI : ∀ B v w, Row w B v L → Tab w → Calls Tryd.prog 24 #[v] w (NumOkA w x ok)) :
    Calls Tryd.prog 8 #[.slice A L.length c] w (Fine w) := by
  have h2 := hT.lt
  have hd : decide ((1048576 : Int) < (L.length : Int)) = false := by simp; omega
  have HS := Lib.hid hS
  have HI := Lib.hid hI
  clear hS hI
  cases ok
  all_goals
    go_enter Tryd.func8, Tryd.ntmps8
    go_wp2_with fail
    refine (to_seen A c L _ hs h).mono ?_
    rintro e w1 ⟨v0, rfl, r0, b1⟩
    go_wp2_with fail
    refine (HS.out _ v0 _ r0).mono ?_
    rintro e w2 ⟨rfl, b2'⟩
    have b2 := b1.trans (b2'.mono b1.size)
    go_wp2_with fail
    refine (to_seen A c L _ hs (h.below b2)).mono ?_
    rintro e w3 ⟨x0, rfl, r1, b3⟩
    have b4 := b2.trans (b3.mono b2.size)
    go_wp2_with fail
    refine (HI.out _ x0 _ r1 (hT.below b4 (by omega))).mono ?_
    rintro e w4 ⟨rfl, b5⟩
    have b6 := b4.trans (b5.mono b4.size)
    go_wp2_with fail
    refine (to_seen A c L _ hs (h.below b6)).mono ?_
    rintro e w5 ⟨x1, rfl, r2, b7⟩
    have b8 := b6.trans (b7.mono b6.size)
    go_wp2_with fail
    refine (eq_yes _ _ x0 x1 L _ ((r1.below b5).below b7) r2 hs).mono ?_
    rintro e w6 ⟨rfl, d2, rfl⟩
    go_wp2
    go_ret
    exact ⟨rfl, below_drewN b8 d2⟩
theorem setLinesLaw_short (A : Option Addr) (c : Nat) (L : List Int) (w : World) (h : Seen w A L) (hT : Tab w) (hs : L.length ≤ 1048576) :
    Calls Tryd.prog 8 #[.slice A L.length c] w (Fine w) := by
  by_cases hg : IsGraph L
  · refine setLinesLaw_of A c L w h hT hs (linesP L).1 (linesP L).2 (fun B v w hr => specLi_yes B v L hg w hr) (fun B v w hr ht => ?_)
    by_cases hz : HasZ L
    · rw [show linesP L = (0, false) from if_pos hz]
      exact implLi_zero B v L hs hz w hr ht
    · rw [show linesP L = (L.length - matN L, true) from if_neg hz]
      exact implLi_yes B v L hg hz w hr ht
  · refine setLinesLaw_of A c L w h hT hs _ false (fun B v w hr => specLi_no B v L hg w hr) (fun B v w hr ht => ?_)
    by_cases hz : HasZ L
    · exact implLi_zero B v L hs hz w hr ht
    · exact implLi_no B v L hs hg hz w hr ht
end Go.Proofs.YtcblcifnpgmibaaDoor
