/- The law FnExactAlikeOwn returns true at each list, and leaves all that was there as it was. -/
import Derived.Test.YtedjnenbmhajiaaDoorAsAny
import Derived.Test.YtedjnenbmhajiaaDoorSpecAlike
import Derived.Test.YtedjnenbmhajiaaDoorImplAlike
import Derived.Test.YtedjnenbmhajiaaDoorOtherGraph
import Derived.Test.YtedjnenbmhajiaaDoorOtherIn
namespace Go.Proofs.YtedjnenbmhajiaaDoor
open Go Go.RowKit
set_option linter.unusedVariables false
set_option maxRecDepth 100000

set_option maxHeartbeats 800000 in
theorem ownLaw_long (A : Option Addr) (n c : Nat) (w : World) (h : 1048576 < n) (hm : n ≤ maxLen) :
    Calls Tryd.prog 9 #[.slice A n c] w (Fine w) := by
  unfold maxLen at hm
  have hd : decide ((1048576 : Int) < (n : Int)) = true := by simp; omega
  go_enter Tryd.func9, Tryd.ntmps9
  go_wp2
  go_ret
  exact ⟨rfl, Below.refl _ _⟩

set_option maxHeartbeats 800000 in
theorem ownLaw_of (A : Option Addr) (c : Nat) (L : List Int) (b : Bool) (w : World) (h : Seen w A L) (hT : Tab w) (hs : L.length ≤ 1048576)
    (hS : ∀ B v w, Row w B v L → Calls Tryd.prog 26 #[v] w (Said1 w b))
    (hI : ∀ B v w, Row w B v L → Tab w → Calls Tryd.prog 27 #[v] w (Said1 w b)) :
    Calls Tryd.prog 9 #[.slice A L.length c] w (Fine w) := by
  have h2 := hT.lt
  have hd : decide ((1048576 : Int) < (L.length : Int)) = false := by simp; omega
  have HS := Lib.hid hS
  have HI := Lib.hid hI
  clear hS hI
  cases b
  all_goals
    go_enter Tryd.func9, Tryd.ntmps9
    go_wp2_with fail
    refine (to_seen A c L _ hs h).mono ?_
    rintro e w1 ⟨v0, rfl, r0, b1⟩
    go_wp2_with fail
    refine (HS.out _ v0 _ r0).mono ?_
    rintro e w2 ⟨rfl, b2'⟩
    have b2 := b1.trans (b2'.mono b1.size)
    go_wp2_with fail
    refine (to_seen A c L _ hs (h.below b2)).mono ?_
    rintro e w3 ⟨x0, rfl, r1, b3⟩
    have b4 := b2.trans (b3.mono b2.size)
    go_wp2_with fail
    refine (HI.out _ x0 _ r1 (hT.below b4 (by omega))).mono ?_
    rintro e w4 ⟨rfl, b5⟩
    have b6 := b4.trans (b5.mono b4.size)
    go_wp2_with fail
    refine (to_seen A c L _ hs (h.below b6)).mono ?_
    rintro e w5 ⟨x1, rfl, r2, b7⟩
    have b8 := b6.trans (b7.mono b6.size)
    go_wp2_with fail
    refine (eq_yes _ _ x0 x1 L _ ((r1.below b5).below b7) r2 hs).mono ?_
    rintro e w6 ⟨rfl, d2, rfl⟩
    go_wp2
    go_ret
    exact ⟨rfl, below_drewN b8 d2⟩
def ownB (L : List Int) : Bool := decide (edgesN L = edgesN (otherL L L.length) ∧ leastL L = leastL (otherL L L.length))
theorem own_any (A : Option Addr) (c : Nat) (L : List Int) (hL : IsGraph L) (w : World) (sL : Seen w A L) (hT : Tab w) :
    Calls Tryd.prog 48 #[.slice A L.length c] w (Said1 w (ownB L)) := by
  have ht := hT.lt
  have hl := otherL_length L L.length
  have H1 := Lib.hid (callsIn_wide.1 (implOther_in A c L hL w sL hT))
  have H2 := Lib.hid (fun A' c' w1 (b : Below w.heap.size w w1) sM => alike_any A A' c c' L (otherL L L.length) hL (other_graph hL) hl.symm w1 (sL.below b) sM (hT.below b (by omega)))
  unfold ownB
  rw [hl] at H2
  obtain ⟨M, eM⟩ : ∃ M, M = otherL L L.length := ⟨_, rfl⟩
  rw [← eM] at H1 H2 hl ⊢
  have HL := Lib.hid hl
  obtain ⟨b, eb⟩ : ∃ b, b = decide (edgesN L = edgesN M ∧ leastL L = leastL M) := ⟨_, rfl⟩
  rw [← eb] at H2 ⊢
  clear hL sL hT eM hl eb
  go_enter Tryd.func48, Tryd.ntmps48
  go_wp2_with fail
  refine H1.out.mono ?_
  rintro e w1 ⟨u, rfl, hu, b1⟩
  obtain ⟨A', c', rfl, s'⟩ := hu.seen
  rw [HL.out]
  have S' := Lib.hid s'
  clear s' hu
  go_wp2_with fail
  refine (H2.out A' c' _ b1 S'.out).mono ?_
  rintro e w2 ⟨rfl, b2⟩
  go_wp2
  go_ret
  exact ⟨rfl, b1.trans (b2.mono b1.size)⟩
theorem implAlikeOwn_yes (B : Nat) (v : Value) (L : List Int) (hg : IsGraph L) (w : World) (h : Row w B v L) (hT : Tab w) :
    Calls Tryd.prog 27 #[v] w (Said1 w (ownB L)) := by
  have ht := hT.lt
  have H1 := Lib.hid (asG_graph B v L hg w h hT)
  obtain ⟨A, c, rfl, hs⟩ := h.seen
  have H2 := Lib.hid (fun w1 (b : Below w.heap.size w w1) => own_any A c L hg w1 (hs.below b) (hT.below b (by omega)))
  obtain ⟨b, eb⟩ : ∃ b, b = ownB L := ⟨_, rfl⟩
  rw [← eb] at H2 ⊢
  clear hg h hs hT eb
  go_enter Tryd.func27, Tryd.ntmps27
  go_wp2_with fail
  go_enter Tryd.func47, Tryd.ntmps47
  go_wp2_with fail
  refine H1.out.mono ?_
  rintro e w1 ⟨rfl, b1⟩
  go_wp2_with fail
  refine (H2.out _ b1).mono ?_
  rintro e w2 ⟨rfl, b2⟩
  go_wp2
  go_ret
  exact ⟨rfl, b1.trans (b2.mono b1.size)⟩
theorem implAlikeOwn_no (B : Nat) (v : Value) (L : List Int) (hg : ¬ IsGraph L) (w : World) (h : Row w B v L) (hT : Tab w) :
    Calls Tryd.prog 27 #[v] w (Said1 w false) := by
  have H1 := Lib.hid (asG_none B v L hg w h hT)
  clear hg h
  go_enter Tryd.func27, Tryd.ntmps27
  go_wp2_with fail
  go_enter Tryd.func47, Tryd.ntmps47
  go_wp2_with fail
  refine H1.out.mono ?_
  rintro e w1 ⟨rfl, b1⟩
  go_wp2
  go_ret
  exact ⟨rfl, b1⟩
theorem specAlikeOwn_yes (B : Nat) (v : Value) (L : List Int) (hg : IsGraph L) (w : World) (h : Row w B v L) :
    Calls Tryd.prog 26 #[v] w (Said1 w (ownB L)) := by
  have hl := otherL_length L L.length
  have H1 := Lib.hid (specIn_any B v L true ⟨fun _ => hg, fun _ => rfl⟩ w h)
  have HR := Lib.hid h
  obtain ⟨A, c, rfl, hs⟩ := h.seen
  have H2 := Lib.hid (fun w1 (b : Below w.heap.size w w1) => specOther_seen A c L hg w1 (hs.below b))
  have H3 := Lib.hid (fun B' v' w1 hr hr' => specAlike_graphs B B' (.slice A L.length c) v' L (otherL L L.length) hg (other_graph hg) hl.symm w1 hr hr')
  unfold ownB
  obtain ⟨M, eM⟩ : ∃ M, M = otherL L L.length := ⟨_, rfl⟩
  rw [← eM] at H2 H3 ⊢
  obtain ⟨b, eb⟩ : ∃ b, b = decide (edgesN L = edgesN M ∧ leastL L = leastL M) := ⟨_, rfl⟩
  rw [← eb] at H3 ⊢
  clear hg h hs hl eM eb
  go_enter Tryd.func26, Tryd.ntmps26
  go_wp2_with fail
  refine H1.out.mono ?_
  rintro e w1 ⟨rfl, d, rfl⟩
  have B0 := Lib.hid (below_drewN (Below.refl w.heap.size w) d)
  go_wp2_with fail
  refine (H2.out _ B0.out).mono ?_
  rintro e w2 ⟨u, rfl, hu, b2⟩
  go_wp2_with fail
  refine (H3.out _ u _ ((HR.out.drewN d).below b2) hu).mono ?_
  rintro e w3 ⟨rfl, b3⟩
  have B3 := Lib.hid ((B0.out.trans b2).trans (b3.mono b2.size))
  clear b3
  go_wp2
  go_ret
  exact ⟨rfl, B3.out⟩
theorem specAlikeOwn_no (B : Nat) (v : Value) (L : List Int) (hg : ¬ IsGraph L) (w : World) (h : Row w B v L) :
    Calls Tryd.prog 26 #[v] w (Said1 w false) := by
  have H1 := Lib.hid (specIn_any B v L false ⟨fun h => (by cases h), fun h => absurd h hg⟩ w h)
  clear hg h
  go_enter Tryd.func26, Tryd.ntmps26
  go_wp2_with fail
  refine H1.out.mono ?_
  rintro e w1 ⟨rfl, d, rfl⟩
  go_wp2
  go_ret
  exact ⟨rfl, below_drewN (Below.refl _ w) d⟩
theorem ownLaw_short (A : Option Addr) (c : Nat) (L : List Int) (w : World) (h : Seen w A L) (hT : Tab w) (hs : L.length ≤ 1048576) :
    Calls Tryd.prog 9 #[.slice A L.length c] w (Fine w) := by
  by_cases hg : IsGraph L
  · exact ownLaw_of A c L (ownB L) w h hT hs (fun B v w hr => specAlikeOwn_yes B v L hg w hr) (fun B v w hr ht => implAlikeOwn_yes B v L hg w hr ht)
  · exact ownLaw_of A c L false w h hT hs (fun B v w hr => specAlikeOwn_no B v L hg w hr) (fun B v w hr ht => implAlikeOwn_no B v L hg w hr ht)
#print axioms ownLaw_short
end Go.Proofs.YtedjnenbmhajiaaDoor
