/- The law FnExactGraphLinked returns true at each list, and leaves all that was there as it was. -/
import Derived.Test.YtneglpklkmoclaaDoorBaseA
import Derived.Test.YtneglpklkmoclaaDoorImplLinked
namespace Go.Proofs.YtneglpklkmoclaaDoor
open Go.RowKit
set_option linter.unusedVariables false


set_option maxHeartbeats 1000000 in
theorem linked_any (A : Option Addr) (c : Nat) (L : List Int) (hg : IsGraph L) (w : World) (h : Seen w A L) (hT : Tab w) :
    Calls Tryd.prog 54 #[.slice A L.length c] w (Said1 w (decide (turns L L.length = 2 ^ L.length - 1))) := by
  have h6 := hg.2.1
  have hp := two_pos L.length
  obtain ⟨Q, hQ⟩ : ∃ Q, Q + 1 = 2 ^ L.length := ⟨2 ^ L.length - 1, by omega⟩
  have hQ2 : 2 ^ L.length - 1 = Q := by omega
  have H1 := Lib.hid (callsIn_wide.1 (implReached_in A c L hg w h hT))
  have H2 := Lib.hid (fun w => all_any A L.length c Q h6 hQ w)
  obtain ⟨q, eq⟩ : ∃ q, q = turns L L.length := ⟨_, rfl⟩
  rw [hQ2, ← eq]
  rw [← eq] at H1
  have e1 : ((q : Int) == (Q : Int)) = decide (q = Q) := by rw [Bool.eq_iff_iff]; simp; omega
  clear hg h hT hQ hQ2 eq hp
  go_enter Tryd.func54, Tryd.ntmps54
  go_wp2_with fail
  refine H1.out.mono ?_
  rintro e w1 ⟨rfl, b1⟩
  go_wp2_with fail
  refine (H2.out _).mono ?_
  rintro e w2 ⟨rfl, rfl⟩
  go_wp2
  go_ret
  exact ⟨rfl, b1⟩

set_option maxHeartbeats 1000000 in
theorem implLinked_no (B : Nat) (v : Value) (L : List Int) (hL : ¬ IsGraph L) (w : World) (h : Row w B v L) (hT : Tab w) :
    Calls Tryd.prog 27 #[v] w (Said1 w false) := by
  have H1 := Lib.hid (asG_none B v L hL w h hT)
  clear hL h
  go_enter Tryd.func27, Tryd.ntmps27
  go_wp2_with fail
  refine H1.out.mono ?_
  rintro e w1 ⟨rfl, b1⟩
  go_wp2
  go_ret
  exact ⟨rfl, b1⟩
set_option maxHeartbeats 1000000 in
theorem implLinked_yes (B : Nat) (v : Value) (L : List Int) (hL : IsGraph L) (w : World) (h : Row w B v L) (hT : Tab w) :
    Calls Tryd.prog 27 #[v] w (Said1 w (decide (turns L L.length = 2 ^ L.length - 1))) := by
  have h2 := hT.lt
  have H1 := Lib.hid (asG_graph B v L hL w h hT)
  obtain ⟨A, c, rfl, hs⟩ := h.seen
  have HS := Lib.hid hs
  have HT := Lib.hid hT
  have H2 := Lib.hid (fun w h ht => linked_any A c L hL w h ht)
  obtain ⟨b, eb⟩ : ∃ b, b = decide (turns L L.length = 2 ^ L.length - 1) := ⟨_, rfl⟩
  rw [← eb] at H2 ⊢
  clear hL h hs hT eb
  go_enter Tryd.func27, Tryd.ntmps27
  go_wp2_with fail
  refine H1.out.mono ?_
  rintro e w1 ⟨rfl, b1⟩
  go_wp2_with fail
  refine (H2.out w1 (HS.out.below b1) (HT.out.below b1 (by omega))).mono ?_
  rintro e w2 ⟨rfl, b3⟩
  go_wp2
  go_ret
  exact ⟨rfl, b1.trans (b3.mono b1.size)⟩
theorem implLinked_any (B : Nat) (v : Value) (L : List Int) (b : Bool) (hb : b = true ↔ IsLinked L) (w : World) (h : Row w B v L) (hT : Tab w) :
    Calls Tryd.prog 27 #[v] w (Said1 w b) := by
  by_cases hL : IsGraph L
  · have e : decide (turns L L.length = 2 ^ L.length - 1) = b := by
      rw [Bool.eq_iff_iff, hb, decide_eq_true_eq]
      exact ⟨fun h => ⟨hL, h⟩, fun h => h.2⟩
    rw [← e]
    exact implLinked_yes B v L hL w h hT
  · have e : b = false := by
      cases b
      · rfl
      · exact absurd (hb.1 rfl).1 hL
    rw [e]
    exact implLinked_no B v L hL w h hT
end Go.Proofs.YtneglpklkmoclaaDoor
