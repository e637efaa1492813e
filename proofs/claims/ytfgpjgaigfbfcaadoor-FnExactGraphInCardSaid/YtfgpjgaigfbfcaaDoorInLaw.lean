/- The law FnExactGraphIn returns true at each list, and leaves all that was there as it was. -/
import Derived.Test.YtfgpjgaigfbfcaaDoorAsAny
namespace Go.Proofs.YtfgpjgaigfbfcaaDoor
open Go.RowKit
set_option linter.unusedVariables false

set_option maxHeartbeats 800000 in
theorem inLaw_long (A : Option Addr) (n c : Nat) (w : World) (h : 1048576 < n) (hm : n ≤ maxLen) :
    Calls Tryd.prog 3 #[.slice A n c] w (Fine w) := by
  unfold maxLen at hm
  have hd : decide ((1048576 : Int) < (n : Int)) = true := by simp; omega
  go_enter Tryd.func3, Tryd.ntmps3
  go_wp2
  go_ret
  exact ⟨rfl, Below.refl _ _⟩

open Classical in
set_option maxHeartbeats 800000 in
theorem inLaw_short (A : Option Addr) (c : Nat) (L : List Int) (w : World) (h : Seen w A L) (hT : Tab w) (hs : L.length ≤ 1048576) :
    Calls Tryd.prog 3 #[.slice A L.length c] w (Fine w) := by
  obtain ⟨b, hb⟩ : ∃ b : Bool, b = true ↔ IsGraph L := ⟨decide (IsGraph L), by simp⟩
  have h2 := hT.lt
  have hd : decide ((1048576 : Int) < (L.length : Int)) = false := by simp; omega
  have HB := Lib.hid hb
  clear hb
  go_enter Tryd.func3, Tryd.ntmps3
  go_wp2_with fail
  refine (to_seen A c L _ hs h).mono ?_
  rintro e w1 ⟨v0, rfl, r0, b1⟩
  go_wp2_with fail
  refine (specIn_any _ v0 L b HB.out _ r0).mono ?_
  rintro e w2 ⟨rfl, d1, rfl⟩
  have b2 : Below w.heap.size w (w1.drewN d1) := below_drewN b1 d1
  go_wp2_with fail
  refine (to_seen A c L _ hs (h.below b2)).mono ?_
  rintro e w3 ⟨x0, rfl, r1, b3⟩
  have b4 := b2.trans (b3.mono b2.size)
  go_wp2_with fail
  refine (implIn_any _ x0 L b HB.out _ r1 (hT.below b4 (by omega))).mono ?_
  rintro e w4 ⟨rfl, b5⟩
  have b6 := b4.trans (b5.mono b4.size)
  go_wp2_with fail
  refine (to_seen A c L _ hs (h.below b6)).mono ?_
  rintro e w5 ⟨x1, rfl, r2, b7⟩
  have b8 := b6.trans (b7.mono b6.size)
  go_wp2_with fail
  refine (eq_yes _ _ x0 x1 L _ ((r1.below b5).below b7) r2 hs).mono ?_
  rintro e w6 ⟨rfl, d2, rfl⟩
  go_wp2
  go_ret
  exact ⟨rfl, below_drewN b8 d2⟩
end Go.Proofs.YtfgpjgaigfbfcaaDoor
