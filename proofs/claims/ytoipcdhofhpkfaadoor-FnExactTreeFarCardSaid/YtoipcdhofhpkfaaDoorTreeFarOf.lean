/- The law FnExactTreeFar returns true at each two lists, and leaves all that was there as it was; out of what the two functions tell. -/
import Derived.Test.YtoipcdhofhpkfaaDoorBaseA
import Derived.Test.YtoipcdhofhpkfaaDoorTreeFarFns
namespace Go.Proofs.YtoipcdhofhpkfaaDoor
open Go.RowKit
set_option linter.unusedVariables false
set_option maxRecDepth 100000

set_option maxHeartbeats 800000 in
theorem treeFarLaw_long (A A' : Option Addr) (n n' c c' : Nat) (w : World) (h : 1048576 < n ∨ 1048576 < n') (hm : n ≤ maxLen) (hm' : n' ≤ maxLen) :
    Calls Tryd.prog 11 #[.slice A n c, .slice A' n' c'] w (Fine w) := by
  unfold maxLen at hm hm'
  by_cases h1 : 1048576 < n
  · have hd : decide ((1048576 : Int) < (n : Int)) = true := by simp; omega
    go_enter Tryd.func11, Tryd.ntmps11
    go_wp2
    go_ret
    exact ⟨rfl, Below.refl _ _⟩
  · have hd : decide ((1048576 : Int) < (n : Int)) = false := by simp; omega
    have hd2 : decide ((1048576 : Int) < (n' : Int)) = true := by simp; omega
    go_enter Tryd.func11, Tryd.ntmps11
    go_wp2
    go_ret
    exact ⟨rfl, Below.refl _ _⟩

set_option maxHeartbeats 1600000 in
theorem treeFarLaw_of (A A' : Option Addr) (c c' : Nat) (L L' : List Int) (x : Nat) (ok : Bool) (w : World) (h : Seen w A L) (h' : Seen w A' L') (hT : Tab w) (hs : L.length ≤ 1048576) (hs' : L'.length ≤ 1048576)
    (hS : ∀ B B' v v' w, Row w B v L → Row w B' v' L' → Calls Tryd.prog 31 #[v, v'] w (NumOkA w x ok))
    (hI : ∀ B B' v v' w, Row w B v L → Row w B' v' L' → Tab w → Calls Tryd.prog 32 #[v, v'] w (NumOkA w x ok)) :
    Calls Tryd.prog 11 #[.slice A L.length c, .slice A' L'.length c'] w (Fine w) := by
  have h2 := hT.lt
  have hd : decide ((1048576 : Int) < (L.length : Int)) = false := by simp; omega
  have hd2 : decide ((1048576 : Int) < (L'.length : Int)) = false := by simp; omega
  have HS := Lib.hid hS
  have HI := Lib.hid hI
  have HT := Lib.hid hT
  have H := Lib.hid h
  have H' := Lib.hid h'
  clear hS hI hT h h'
  cases ok
  all_goals
    go_enter Tryd.func11, Tryd.ntmps11
    go_wp2_with fail
    refine (to_seen A c L _ hs H.out).mono ?_
    rintro e w1 ⟨v0, rfl, r0, b1⟩
    go_wp2_with fail
    refine (to_seen A' c' L' _ hs' (H'.out.below b1)).mono ?_
    rintro e w1' ⟨v0', rfl, r0', bb1⟩
    have b1' := b1.trans (bb1.mono b1.size)
    go_wp2_with fail
    refine (HS.out _ _ v0 v0' _ (r0.below bb1) r0').mono ?_
    rintro e w2 ⟨rfl, bb2⟩
    have b2 := b1'.trans (bb2.mono b1'.size)
    go_wp2_with fail
    refine (to_seen A c L _ hs (H.out.below b2)).mono ?_
    rintro e w3 ⟨x0, rfl, rx, bb3⟩
    have b3 := b2.trans (bb3.mono b2.size)
    go_wp2_with fail
    refine (to_seen A' c' L' _ hs' (H'.out.below b3)).mono ?_
    rintro e w3' ⟨x1, rfl, ry, bb3'⟩
    have b3' := b3.trans (bb3'.mono b3.size)
    go_wp2_with fail
    refine (HI.out _ _ x0 x1 _ (rx.below bb3') ry (HT.out.below b3' (by omega))).mono ?_
    rintro e w4 ⟨rfl, bb4⟩
    have b4 := b3'.trans (bb4.mono b3'.size)
    have rx4 := (rx.below bb3').below bb4
    have ry4 := ry.below bb4
    go_wp2_with fail
    refine (to_seen A c L _ hs (H.out.below b4)).mono ?_
    rintro e w6 ⟨y1, rfl, rz, bb6⟩
    have b6 := b4.trans (bb6.mono b4.size)
    have rx6 := rx4.below bb6
    have ry6 := ry4.below bb6
    go_wp2_with fail
    refine (eq_yes _ _ x0 y1 L _ rx6 rz hs).mono ?_
    rintro e w7 ⟨rfl, d2, rfl⟩
    have b7 := below_drewN b6 d2
    go_wp2_with fail
    refine (to_seen A' c' L' _ hs' (H'.out.below b7)).mono ?_
    rintro e w8 ⟨y2, rfl, rz2, bb8⟩
    have b8 := b7.trans (bb8.mono b7.size)
    have ry8 := (ry6.drewN d2).below bb8
    go_wp2_with fail
    refine (eq_yes _ _ x1 y2 L' _ ry8 rz2 hs').mono ?_
    rintro e w9 ⟨rfl, d3, rfl⟩
    have b9 := below_drewN b8 d3
    go_wp2
    go_ret
    exact ⟨rfl, b9⟩
theorem treeFarLaw_short (A A' : Option Addr) (c c' : Nat) (L M : List Int) (w : World) (h : Seen w A L) (h' : Seen w A' M) (hT : Tab w) (hs : L.length ≤ 1048576) (hs' : M.length ≤ 1048576) :
    Calls Tryd.prog 11 #[.slice A L.length c, .slice A' M.length c'] w (Fine w) := by
  exact treeFarLaw_of A A' c c' L M (farP L M).1 (farP L M).2 w h h' hT hs hs' (fun B B' v v' w hr hr' => specFar_any B B' v v' L M w hr hr') (fun B B' v v' w hr hr' ht => implFar_any B B' v v' L M w hr hr' ht)
end Go.Proofs.YtoipcdhofhpkfaaDoor
