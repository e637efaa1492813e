/- The law FnExactGraphLinked returns true at each list, and leaves all that was there as it was. -/
import Derived.Test.YtfgpjgaigfbfcaaDoorImplLinked
import Derived.Test.YtfgpjgaigfbfcaaDoorSpecLinked
namespace Go.Proofs.YtfgpjgaigfbfcaaDoor
open Go.RowKit
set_option linter.unusedVariables false

def IsLinked (L : List Int) : Prop := IsGraph L ∧ turns L L.length = 2 ^ L.length - 1
theorem specLinked_any (B : Nat) (v : Value) (L : List Int) (b : Bool) (hb : b = true ↔ IsLinked L) (w : World) (h : Row w B v L) :
    Calls Tryd.prog 36 #[v] w (Looked w b) := by
  by_cases hL : IsGraph L
  · have e : decide (turns L L.length = 2 ^ L.length - 1) = b := by
      rw [Bool.eq_iff_iff, hb, decide_eq_true_eq]
      exact ⟨fun h => ⟨hL, h⟩, fun h => h.2⟩
    rw [← e]
    exact specLinked_yes B v L hL w h
  · have e : b = false := by
      cases b
      · rfl
      · exact absurd (hb.1 rfl).1 hL
    rw [e]
    exact specLinked_no B v L hL w h

set_option maxHeartbeats 1000000 in
theorem linked_any (A : Option Addr) (c : Nat) (L : List Int) (hg : IsGraph L) (w : World) (h : Seen w A L) (hT : Tab w) :
    Calls Tryd.prog 63 #[.slice A L.length c] w (Said1 w (decide (turns L L.length = 2 ^ L.length - 1))) := by
  have h6 := hg.2.1
  have hp := two_pos L.length
  obtain ⟨Q, hQ⟩ : ∃ Q, Q + 1 = 2 ^ L.length := ⟨2 ^ L.length - 1, by omega⟩
  have hQ2 : 2 ^ L.length - 1 = Q := by omega
  have H1 := Lib.hid (callsIn_wide.1 (implReached_in A c L hg w h hT))
  have H2 := Lib.hid (fun w => all_any A L.length c Q h6 hQ w)
  obtain ⟨q, eq⟩ : ∃ q, q = turns L L.length := ⟨_, rfl⟩
  rw [hQ2, ← eq]
  rw [← eq] at H1
  have e1 : ((q : Int) == (Q : Int)) = decide (q = Q) := by rw [Bool.eq_iff_iff]; simp; omega
  clear hg h hT hQ hQ2 eq hp
  go_enter Tryd.func63, Tryd.ntmps63
  go_wp2_with fail
  refine H1.out.mono ?_
  rintro e w1 ⟨rfl, b1⟩
  go_wp2_with fail
  refine (H2.out _).mono ?_
  rintro e w2 ⟨rfl, rfl⟩
  go_wp2
  go_ret
  exact ⟨rfl, b1⟩

set_option maxHeartbeats 1000000 in
theorem implLinked_no (B : Nat) (v : Value) (L : List Int) (hL : ¬ IsGraph L) (w : World) (h : Row w B v L) (hT : Tab w) :
    Calls Tryd.prog 37 #[v] w (Said1 w false) := by
  have H1 := Lib.hid (asG_none B v L hL w h hT)
  clear hL h
  go_enter Tryd.func37, Tryd.ntmps37
  go_wp2_with fail
  refine H1.out.mono ?_
  rintro e w1 ⟨rfl, b1⟩
  go_wp2
  go_ret
  exact ⟨rfl, b1⟩
set_option maxHeartbeats 1000000 in
theorem implLinked_yes (B : Nat) (v : Value) (L : List Int) (hL : IsGraph L) (w : World) (h : Row w B v L) (hT : Tab w) :
    Calls Tryd.prog 37 #[v] w (Said1 w (decide (turns L L.length = 2 ^ L.length - 1))) := by
  have h2 := hT.lt
  have H1 := Lib.hid (asG_graph B v L hL w h hT)
  obtain ⟨A, c, rfl, hs⟩ := h.seen
  have HS := Lib.hid hs
  have HT := Lib.hid hT
  have H2 := Lib.hid (fun w h ht => linked_any A c L hL w h ht)
  obtain ⟨b, eb⟩ : ∃ b, b = decide (turns L L.length = 2 ^ L.length - 1) := ⟨_, rfl⟩
  rw [← eb] at H2 ⊢
  clear hL h hs hT eb
  go_enter Tryd.func37, Tryd.ntmps37
  go_wp2_with fail
  refine H1.out.mono ?_
  rintro e w1 ⟨rfl, b1⟩
  go_wp2_with fail
  refine (H2.out w1 (HS.out.below b1) (HT.out.below b1 (by omega))).mono ?_
  rintro e w2 ⟨rfl, b3⟩
  go_wp2
  go_ret
  exact ⟨rfl, b1.trans (b3.mono b1.size)⟩
theorem implLinked_any (B : Nat) (v : Value) (L : List Int) (b : Bool) (hb : b = true ↔ IsLinked L) (w : World) (h : Row w B v L) (hT : Tab w) :
    Calls Tryd.prog 37 #[v] w (Said1 w b) := by
  by_cases hL : IsGraph L
  · have e : decide (turns L L.length = 2 ^ L.length - 1) = b := by
      rw [Bool.eq_iff_iff, hb, decide_eq_true_eq]
      exact ⟨fun h => ⟨hL, h⟩, fun h => h.2⟩
    rw [← e]
    exact implLinked_yes B v L hL w h hT
  · have e : b = false := by
      cases b
      · rfl
      · exact absurd (hb.1 rfl).1 hL
    rw [e]
    exact implLinked_no B v L hL w h hT

set_option maxHeartbeats 800000 in
theorem linkedLaw_long (A : Option Addr) (n c : Nat) (w : World) (h : 1048576 < n) (hm : n ≤ maxLen) :
    Calls Tryd.prog 12 #[.slice A n c] w (Fine w) := by
  unfold maxLen at hm
  have hd : decide ((1048576 : Int) < (n : Int)) = true := by simp; omega
  go_enter Tryd.func12, Tryd.ntmps12
  go_wp2
  go_ret
  exact ⟨rfl, Below.refl _ _⟩

open Classical in
set_option maxHeartbeats 800000 in
theorem linkedLaw_short (A : Option Addr) (c : Nat) (L : List Int) (w : World) (h : Seen w A L) (hT : Tab w) (hs : L.length ≤ 1048576) :
    Calls Tryd.prog 12 #[.slice A L.length c] w (Fine w) := by
  obtain ⟨b, hb⟩ : ∃ b : Bool, b = true ↔ IsLinked L := ⟨decide (IsLinked L), by simp⟩
  have h2 := hT.lt
  have hd : decide ((1048576 : Int) < (L.length : Int)) = false := by simp; omega
  have HB := Lib.hid hb
  clear hb
  go_enter Tryd.func12, Tryd.ntmps12
  go_wp2_with fail
  refine (to_seen A c L _ hs h).mono ?_
  rintro e w1 ⟨v0, rfl, r0, b1⟩
  go_wp2_with fail
  refine (specLinked_any _ v0 L b HB.out _ r0).mono ?_
  rintro e w2 ⟨rfl, d1, rfl⟩
  have b2 : Below w.heap.size w (w1.drewN d1) := below_drewN b1 d1
  go_wp2_with fail
  refine (to_seen A c L _ hs (h.below b2)).mono ?_
  rintro e w3 ⟨x0, rfl, r1, b3⟩
  have b4 := b2.trans (b3.mono b2.size)
  go_wp2_with fail
  refine (implLinked_any _ x0 L b HB.out _ r1 (hT.below b4 (by omega))).mono ?_
  rintro e w4 ⟨rfl, b5⟩
  have b6 := b4.trans (b5.mono b4.size)
  go_wp2_with fail
  refine (to_seen A c L _ hs (h.below b6)).mono ?_
  rintro e w5 ⟨x1, rfl, r2, b7⟩
  have b8 := b6.trans (b7.mono b6.size)
  go_wp2_with fail
  refine (eq_yes _ _ x0 x1 L _ ((r1.below b5).below b7) r2 hs).mono ?_
  rintro e w6 ⟨rfl, d2, rfl⟩
  go_wp2
  go_ret
  exact ⟨rfl, below_drewN b8 d2⟩
end Go.Proofs.YtfgpjgaigfbfcaaDoor
