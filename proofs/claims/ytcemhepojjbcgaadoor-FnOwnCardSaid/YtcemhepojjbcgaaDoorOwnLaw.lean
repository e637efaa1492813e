/- The law FnExactAlikeOwn returns true at each list, and leaves all that was there as it was. -/
import Derived.Test.YtcemhepojjbcgaaDoorBaseA
import Derived.Test.YtcemhepojjbcgaaDoorBaseE
import Derived.Test.YtcemhepojjbcgaaDoorOtherIn
namespace Go.Proofs.YtcemhepojjbcgaaDoor
open Go Go.RowKit
set_option linter.unusedVariables false
set_option maxRecDepth 100000


def ownB (L : List Int) : Bool := decide (edgesN L = edgesN (otherL L L.length) ∧ leastL L = leastL (otherL L L.length))
theorem own_any (A : Option Addr) (c : Nat) (L : List Int) (hL : IsGraph L) (w : World) (sL : Seen w A L) (hT : Tab w) :
    Calls Tryd.prog 93 #[.slice A L.length c] w (Said1 w (ownB L)) := by
  have ht := hT.lt
  have hl := otherL_length L L.length
  have H1 := Lib.hid (callsIn_wide.1 (implOther_in A c L hL w sL hT))
  have H2 := Lib.hid (fun A' c' w1 (b : Below w.heap.size w w1) sM => alike_any A A' c c' L (otherL L L.length) hL (other_graph hL) hl.symm w1 (sL.below b) sM (hT.below b (by omega)))
  unfold ownB
  rw [hl] at H2
  obtain ⟨M, eM⟩ : ∃ M, M = otherL L L.length := ⟨_, rfl⟩
  rw [← eM] at H1 H2 hl ⊢
  have HL := Lib.hid hl
  obtain ⟨b, eb⟩ : ∃ b, b = decide (edgesN L = edgesN M ∧ leastL L = leastL M) := ⟨_, rfl⟩
  rw [← eb] at H2 ⊢
  clear hL sL hT eM hl eb
  go_enter Tryd.func93, Tryd.ntmps93
  go_wp2_with fail
  refine H1.out.mono ?_
  rintro e w1 ⟨u, rfl, hu, b1⟩
  obtain ⟨A', c', rfl, s'⟩ := hu.seen
  rw [HL.out]
  have S' := Lib.hid s'
  clear s' hu
  go_wp2_with fail
  refine (H2.out A' c' _ b1 S'.out).mono ?_
  rintro e w2 ⟨rfl, b2⟩
  go_wp2
  go_ret
  exact ⟨rfl, b1.trans (b2.mono b1.size)⟩
theorem implAlikeOwn_yes (B : Nat) (v : Value) (L : List Int) (hg : IsGraph L) (w : World) (h : Row w B v L) (hT : Tab w) :
    Calls Tryd.prog 44 #[v] w (Said1 w (ownB L)) := by
  have ht := hT.lt
  have H1 := Lib.hid (asG_graph B v L hg w h hT)
  obtain ⟨A, c, rfl, hs⟩ := h.seen
  have H2 := Lib.hid (fun w1 (b : Below w.heap.size w w1) => own_any A c L hg w1 (hs.below b) (hT.below b (by omega)))
  obtain ⟨b, eb⟩ : ∃ b, b = ownB L := ⟨_, rfl⟩
  rw [← eb] at H2 ⊢
  clear hg h hs hT eb
  go_enter Tryd.func44, Tryd.ntmps44
  go_wp2_with fail
  go_enter Tryd.func92, Tryd.ntmps92
  go_wp2_with fail
  refine H1.out.mono ?_
  rintro e w1 ⟨rfl, b1⟩
  go_wp2_with fail
  refine (H2.out _ b1).mono ?_
  rintro e w2 ⟨rfl, b2⟩
  go_wp2
  go_ret
  exact ⟨rfl, b1.trans (b2.mono b1.size)⟩
theorem implAlikeOwn_no (B : Nat) (v : Value) (L : List Int) (hg : ¬ IsGraph L) (w : World) (h : Row w B v L) (hT : Tab w) :
    Calls Tryd.prog 44 #[v] w (Said1 w false) := by
  have H1 := Lib.hid (asG_none B v L hg w h hT)
  clear hg h
  go_enter Tryd.func44, Tryd.ntmps44
  go_wp2_with fail
  go_enter Tryd.func92, Tryd.ntmps92
  go_wp2_with fail
  refine H1.out.mono ?_
  rintro e w1 ⟨rfl, b1⟩
  go_wp2
  go_ret
  exact ⟨rfl, b1⟩
theorem specAlikeOwn_yes (B : Nat) (v : Value) (L : List Int) (hg : IsGraph L) (w : World) (h : Row w B v L) :
    Calls Tryd.prog 45 #[v] w (Said1 w (ownB L)) := by
  have hl := otherL_length L L.length
  have H1 := Lib.hid (specIn_any B v L true ⟨fun _ => hg, fun _ => rfl⟩ w h)
  have HR := Lib.hid h
  obtain ⟨A, c, rfl, hs⟩ := h.seen
  have H2 := Lib.hid (fun w1 (b : Below w.heap.size w w1) => specOther_seen A c L hg w1 (hs.below b))
  have H3 := Lib.hid (fun B' v' w1 hr hr' => specAlike_graphs B B' (.slice A L.length c) v' L (otherL L L.length) hg (other_graph hg) hl.symm w1 hr hr')
  unfold ownB
  obtain ⟨M, eM⟩ : ∃ M, M = otherL L L.length := ⟨_, rfl⟩
  rw [← eM] at H2 H3 ⊢
  obtain ⟨b, eb⟩ : ∃ b, b = decide (edgesN L = edgesN M ∧ leastL L = leastL M) := ⟨_, rfl⟩
  rw [← eb] at H3 ⊢
  clear hg h hs hl eM eb
  go_enter Tryd.func45, Tryd.ntmps45
  go_wp2_with fail
  refine H1.out.mono ?_
  rintro e w1 ⟨rfl, d, rfl⟩
  have B0 := Lib.hid (below_drewN (Below.refl w.heap.size w) d)
  go_wp2_with fail
  refine (H2.out _ B0.out).mono ?_
  rintro e w2 ⟨u, rfl, hu, b2⟩
  go_wp2_with fail
  refine (H3.out _ u _ ((HR.out.drewN d).below b2) hu).mono ?_
  rintro e w3 ⟨rfl, b3⟩
  have B3 := Lib.hid ((B0.out.trans b2).trans (b3.mono b2.size))
  clear b3
  go_wp2
  go_ret
  exact ⟨rfl, B3.out⟩
theorem specAlikeOwn_no (B : Nat) (v : Value) (L : List Int) (hg : ¬ IsGraph L) (w : World) (h : Row w B v L) :
    Calls Tryd.prog 45 #[v] w (Said1 w false) := by
  have H1 := Lib.hid (specIn_any B v L false ⟨fun h => (by cases h), fun h => absurd h hg⟩ w h)
  clear hg h
  go_enter Tryd.func45, Tryd.ntmps45
  go_wp2_with fail
  refine H1.out.mono ?_
  rintro e w1 ⟨rfl, d, rfl⟩
  go_wp2
  go_ret
  exact ⟨rfl, below_drewN (Below.refl _ w) d⟩
end Go.Proofs.YtcemhepojjbcgaaDoor
