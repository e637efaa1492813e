/- The law FnExactTreeDegrees returns true at each number and list, and leaves all that was there as it was; out of what the two functions tell. -/
import Derived.Test.YtoipcdhofhpkfaaBaseA
import Derived.Test.YtoipcdhofhpkfaaImplDegT
namespace Go.Proofs.Ytoipcdhofhpkfaa
open Go.RowKit
set_option linter.unusedVariables false
set_option maxRecDepth 100000

set_option maxHeartbeats 800000 in
theorem treeDegreesLaw_long (A : Option Addr) (n c : Nat) (w : World) (h : 1048576 < n) (hm : n ≤ maxLen) :
    Calls Try.prog 4 #[.slice A n c] w (Fine w) := by
  unfold maxLen at hm
  have hd : decide ((1048576 : Int) < (n : Int)) = true := by simp; omega
  go_enter Try.func4, Try.ntmps4
  go_wp2
  go_ret
  exact ⟨rfl, Below.refl _ _⟩

set_option maxHeartbeats 800000 in
/-- A law of a number and a bool, out of what the two functions tell. -/
theorem treeDegreesLaw_of (A : Option Addr) (c : Nat) (L : List Int) (w : World) (h : Seen w A L) (hs : L.length ≤ 1048576) (p : Nat × Bool)
    (hS : ∀ B v w, Row w B v L → Calls Try.prog 7 #[v] w (ManyP w p))
    (hI : ∀ B v w, Row w B v L → Calls Try.prog 9 #[v] w (ManyP w p)) :
    Calls Try.prog 4 #[.slice A L.length c] w (Fine w) := by
  have hd : decide ((1048576 : Int) < (L.length : Int)) = false := by simp; omega
  have HS := Lib.hid hS
  have HI := Lib.hid hI
  clear hS hI
  obtain ⟨x, ok⟩ := p
  cases ok
  all_goals
    go_enter Try.func4, Try.ntmps4
    go_wp2_with fail
    refine (to_seen A c L _ hs h).mono ?_
    rintro e w1 ⟨v0, rfl, r0, b1⟩
    go_wp2_with fail
    refine (HS.out _ v0 _ r0).mono ?_
    rintro e w2 ⟨rfl, rfl⟩
    have b2 := b1
    go_wp2_with fail
    refine (to_seen A c L _ hs (h.below b2)).mono ?_
    rintro e w3 ⟨x0, rfl, r1, b3⟩
    have b4 := b2.trans (b3.mono b2.size)
    go_wp2_with fail
    refine (HI.out _ x0 _ r1).mono ?_
    rintro e w4 ⟨rfl, rfl⟩
    have b6 := b4
    go_wp2_with fail
    refine (to_seen A c L _ hs (h.below b6)).mono ?_
    rintro e w5 ⟨x1, rfl, r2, b7⟩
    have b8 := b6.trans (b7.mono b6.size)
    go_wp2_with fail
    refine (eq_yes _ _ x0 x1 L _ (r1.below b7) r2 hs).mono ?_
    rintro e w6 ⟨rfl, d2, rfl⟩
    go_wp2
    go_ret
    exact ⟨rfl, below_drewN b8 d2⟩
theorem treeDegreesLaw_short (A : Option Addr) (c : Nat) (L : List Int) (w : World) (h : Seen w A L) (hs : L.length ≤ 1048576) :
    Calls Try.prog 4 #[.slice A L.length c] w (Fine w) :=
  treeDegreesLaw_of A c L w h hs (degP L) (fun B v w hr => specDeg_any B v L w hr) (fun B v w hr => implDeg_any B v L w hr)
end Go.Proofs.Ytoipcdhofhpkfaa
