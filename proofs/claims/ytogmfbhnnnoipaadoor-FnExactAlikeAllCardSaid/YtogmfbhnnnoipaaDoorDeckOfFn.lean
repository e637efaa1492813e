/- DeckOf, the model's and the program's. -/
import Derived.Test.YtogmfbhnnnoipaaDoorSpecDeck
import Derived.Test.YtogmfbhnnnoipaaDoorImplDeck
import Derived.Test.YtogmfbhnnnoipaaDoorBaseA
namespace Go.Proofs.YtogmfbhnnnoipaaDoor
open Go Go.RowKit
set_option linter.unusedVariables false
set_option maxRecDepth 100000

/-- A graph of at least two nodes. -/
def Two (L : List Int) : Prop := IsGraph L ∧ 2 ≤ L.length
open Classical in
noncomputable def deckSaid (L : List Int) : List Int × Bool := if Two L then (deckL L, true) else ([], false)
theorem deckSaid_yes {L : List Int} (h : Two L) : deckSaid L = (deckL L, true) := if_pos h
theorem deckSaid_no {L : List Int} (h : ¬ Two L) : deckSaid L = ([], false) := if_neg h
theorem deckSaid_length (L : List Int) : (deckSaid L).1.length ≤ 1000 := by
  by_cases h : Two L
  · rw [deckSaid_yes h]
    show (deckL L).length ≤ 1000
    rw [deckL_length]
    have := h.1.2.1
    omega
  · rw [deckSaid_no h]; simp
theorem emptyRow (w : World) : Row (w.alloc (.cells #[] 3)) w.heap.size (.slice (some ⟨w.heap.size, 0, none⟩) 0 0) [] :=
  World.ownsRow_lit (base := w.heap.size) (e := 3) (size := 1) w #[] 0 (Nat.le_refl _) (by unfold maxLen; omega) rfl

theorem deck_fn (A : Option Addr) (c : Nat) (L : List Int) (h : Two L) (w : World) (sL : Seen w A L) (hT : Tab w) :
    Calls Tryd.prog 72 #[.slice A L.length c] w (Gave w (deckL L)) := callsIn_wide.1 (implDeck_in A c L h.1 h.2 w sL hT)

set_option maxHeartbeats 1000000 in
theorem implDeckOf_any (B : Nat) (v : Value) (L : List Int) (w : World) (h : Row w B v L) (hT : Tab w) :
    Calls Tryd.prog 36 #[v] w (Told w (deckSaid L).1 (deckSaid L).2) := by
  have ht := hT.lt
  by_cases hg : IsGraph L
  · have H1 := Lib.hid (asG_graph B v L hg w h hT)
    obtain ⟨A, c, rfl, hs⟩ := h.seen
    by_cases h2 : 2 ≤ L.length
    · rw [deckSaid_yes ⟨hg, h2⟩]
      have hd : decide ((L.length : Int) < 2) = false := decide_eq_false (by omega)
      have H2 := Lib.hid (fun w1 (b : Below w.heap.size w w1) => deck_fn A c L ⟨hg, h2⟩ w1 (hs.below b) (hT.below b (by omega)))
      clear hg h hs hT h2
      go_enter Tryd.func36, Tryd.ntmps36
      go_wp2_with fail
      refine H1.out.mono ?_
      rintro e w1 ⟨rfl, b1⟩
      go_wp2_with fail
      refine (H2.out _ b1).mono ?_
      rintro e w2 ⟨u, rfl, hu, b2⟩
      go_wp2
      go_ret2
      exact ⟨_, rfl, hu.mono b1.size, b1.trans (b2.mono b1.size)⟩
    · rw [deckSaid_no (fun h => h2 h.2)]
      have hd : decide ((L.length : Int) < 2) = true := decide_eq_true (by omega)
      clear hg h hs hT h2
      go_enter Tryd.func36, Tryd.ntmps36
      go_wp2_with fail
      refine H1.out.mono ?_
      rintro e w1 ⟨rfl, b1⟩
      go_wp2
      go_ret2
      exact ⟨_, rfl, World.ownsRow_nil w1 w.heap.size 3 1, b1⟩
  · have H1 := Lib.hid (asG_none B v L hg w h hT)
    rw [deckSaid_no (fun h => hg h.1)]
    clear hg h
    go_enter Tryd.func36, Tryd.ntmps36
    go_wp2_with fail
    refine H1.out.mono ?_
    rintro e w1 ⟨rfl, b1⟩
    go_wp2
    go_ret2
    exact ⟨_, rfl, World.ownsRow_nil w1 w.heap.size 3 1, b1⟩

set_option maxHeartbeats 1000000 in
theorem specDeckOf_any (B : Nat) (v : Value) (L : List Int) (w : World) (h : Row w B v L) :
    Calls Tryd.prog 37 #[v] w (Told w (deckSaid L).1 (deckSaid L).2) := by
  by_cases hg : IsGraph L
  · have H1 := Lib.hid (specIn_any B v L true ⟨fun _ => hg, fun _ => rfl⟩ w h)
    obtain ⟨A, c, rfl, hs⟩ := h.seen
    by_cases h2 : 2 ≤ L.length
    · rw [deckSaid_yes ⟨hg, h2⟩]
      have hd : decide ((L.length : Int) < 2) = false := decide_eq_false (by omega)
      have H2 := Lib.hid (fun w1 (b : Below w.heap.size w w1) => specDeck_seen A c L hg h2 w1 (hs.below b))
      clear hg h hs h2
      go_enter Tryd.func37, Tryd.ntmps37
      go_wp2_with fail
      refine H1.out.mono ?_
      rintro e w1 ⟨rfl, d, rfl⟩
      have b1 := below_drewN (Below.refl w.heap.size w) d
      go_wp2_with fail
      refine (H2.out _ b1).mono ?_
      rintro e w2 ⟨u, rfl, hu, b2⟩
      go_wp2
      go_ret2
      exact ⟨_, rfl, hu.mono b1.size, b1.trans (b2.mono b1.size)⟩
    · rw [deckSaid_no (fun h => h2 h.2)]
      have hd : decide ((L.length : Int) < 2) = true := decide_eq_true (by omega)
      clear hg h hs h2
      go_enter Tryd.func37, Tryd.ntmps37
      go_wp2_with fail
      refine H1.out.mono ?_
      rintro e w1 ⟨rfl, d, rfl⟩
      go_wp2
      go_ret2
      exact ⟨_, rfl, emptyRow (w.drewN d), (below_drewN (Below.refl _ w) d).alloc (Nat.le_refl _) _⟩
  · have H1 := Lib.hid (specIn_any B v L false ⟨fun h => (by cases h), fun h => absurd h hg⟩ w h)
    rw [deckSaid_no (fun h => hg h.1)]
    clear hg h
    go_enter Tryd.func37, Tryd.ntmps37
    go_wp2_with fail
    refine H1.out.mono ?_
    rintro e w1 ⟨rfl, d, rfl⟩
    go_wp2
    go_ret2
    exact ⟨_, rfl, emptyRow (w.drewN d), (below_drewN (Below.refl _ w) d).alloc (Nat.le_refl _) _⟩
end Go.Proofs.YtogmfbhnnnoipaaDoor
