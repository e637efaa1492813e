/- The law FnExactDeckByEdges at each list. -/
import Derived.Test.YtdhfnjpjccjkcaaDoorSpecEdgeDeck
import Derived.Test.YtdhfnjpjccjkcaaDoorImplEdgeDeck
import Derived.Test.YtdhfnjpjccjkcaaDoorBaseA
import Derived.Test.YtdhfnjpjccjkcaaDoorDeckByEdgesOf
namespace Go.Proofs.YtdhfnjpjccjkcaaDoor
open Go Go.RowKit
set_option linter.unusedVariables false
set_option maxRecDepth 100000

open Classical in
noncomputable def byEdgesSaid (L : List Int) : List Int × Bool := if IsGraph L then (edgeDeckL L, true) else ([], false)
theorem byEdgesSaid_yes {L : List Int} (h : IsGraph L) : byEdgesSaid L = (edgeDeckL L, true) := if_pos h
theorem byEdgesSaid_no {L : List Int} (h : ¬ IsGraph L) : byEdgesSaid L = ([], false) := if_neg h
theorem byEdgesSaid_length (L : List Int) : (byEdgesSaid L).1.length ≤ 1000 := by
  by_cases h : IsGraph L
  · rw [byEdgesSaid_yes h]
    exact Nat.le_trans (edgeDeckL_length L h.2.1) (by decide)
  · rw [byEdgesSaid_no h]; simp

set_option maxHeartbeats 1000000 in
theorem implDeckByEdges_any (B : Nat) (v : Value) (L : List Int) (w : World) (h : Row w B v L) (hT : Tab w) :
    Calls Tryd.prog 25 #[v] w (Told w (byEdgesSaid L).1 (byEdgesSaid L).2) := by
  have ht := hT.lt
  by_cases hg : IsGraph L
  · have H1 := Lib.hid (asG_graph B v L hg w h hT)
    obtain ⟨A, c, rfl, hs⟩ := h.seen
    rw [byEdgesSaid_yes hg]
    have H2 := Lib.hid (fun w1 (b : Below w.heap.size w w1) => callsIn_wide.1 (implEdgeDeck_in A c L hg w1 (hs.below b) (hT.below b (by omega))))
    clear hg h hs hT
    go_enter Tryd.func25, Tryd.ntmps25
    go_wp2_with fail
    go_enter Tryd.func50, Tryd.ntmps50
    go_wp2_with fail
    refine H1.out.mono ?_
    rintro e w1 ⟨rfl, b1⟩
    go_wp2_with fail
    refine (H2.out _ b1).mono ?_
    rintro e w2 ⟨u, rfl, hu, b2⟩
    go_wp2
    go_ret2
    exact ⟨_, rfl, hu.mono b1.size, b1.trans (b2.mono b1.size)⟩
  · have H1 := Lib.hid (asG_none B v L hg w h hT)
    rw [byEdgesSaid_no hg]
    clear hg h
    go_enter Tryd.func25, Tryd.ntmps25
    go_wp2_with fail
    go_enter Tryd.func50, Tryd.ntmps50
    go_wp2_with fail
    refine H1.out.mono ?_
    rintro e w1 ⟨rfl, b1⟩
    go_wp2
    go_ret2
    exact ⟨_, rfl, World.ownsRow_nil w1 w.heap.size 3 1, b1⟩
theorem specDeckByEdges_any (B : Nat) (v : Value) (L : List Int) (w : World) (h : Row w B v L) :
    Calls Tryd.prog 24 #[v] w (Told w (byEdgesSaid L).1 (byEdgesSaid L).2) := by
  by_cases hg : IsGraph L
  · rw [byEdgesSaid_yes hg]; exact specDeckByEdges_yes B v L hg w h
  · rw [byEdgesSaid_no hg]; exact specDeckByEdges_no B v L hg w h
theorem byLaw_short (A : Option Addr) (c : Nat) (L : List Int) (w : World) (h : Seen w A L) (hT : Tab w) (hs : L.length ≤ 1048576) :
    Calls Tryd.prog 8 #[.slice A L.length c] w (Fine w) :=
  byLaw_of A c L w h hT hs _ _ (byEdgesSaid_length L) (fun B v w hr => specDeckByEdges_any B v L w hr) (fun B v w hr ht => implDeckByEdges_any B v L w hr ht)
#print axioms byLaw_short
end Go.Proofs.YtdhfnjpjccjkcaaDoor
