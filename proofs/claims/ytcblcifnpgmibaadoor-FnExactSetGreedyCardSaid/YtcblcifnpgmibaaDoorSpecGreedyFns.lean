/- The model's SetGreedy. -/
import Derived.Test.YtcblcifnpgmibaaDoorSpecGreedy
namespace Go.Proofs.YtcblcifnpgmibaaDoor
open Go Go.RowKit
set_option linter.unusedVariables false
set_option maxRecDepth 100000

set_option maxHeartbeats 2000000 in
theorem specGr_yes (B B' : Nat) (v v' : Value) (L P : List Int) (hg : IsGraph L) (hp : IsNames P L.length) (w : World) (h : Row w B v L) (h' : Row w B' v' P) :
    Calls Tryd.prog 29 #[v, v'] w (Told w (ints (gS L L.length (natOf P)).2) true) := by
  have h1 := hg.1
  have h6 := hg.2.1
  obtain ⟨e1, e2, e3, e4⟩ := natOf_ints hp
  have H1 := Lib.hid (specIn_any B v L true ⟨fun _ => hg, fun _ => rfl⟩ w h)
  obtain ⟨A, c, rfl, hs⟩ := h.seen
  obtain ⟨A', c', rfl, hs'⟩ := h'.seen
  have hpl : P.length = L.length := hp.1
  have H2 := Lib.hid (fun w1 (b : Below w.heap.size w w1) => specNames_any A' c' L.length P true ⟨fun _ => hp, fun _ => rfl⟩ w1 (hs'.below b) h1 h6 (by omega))
  have H3 : Hid (∀ w1 (b : Below w.heap.size w w1), Calls Tryd.prog 48 #[.slice A L.length c, .slice A' P.length c'] w1 (Gave w1 (ints (gS L L.length (natOf P)).2))) := Lib.hid fun w1 b => by
    have hsP : Seen w1 A' (ints (natOf P)) := by rw [e1]; exact hs'.below b
    have := specGreedy_seen A A' c c' L hg (natOf P) (by omega) e3 e4 w1 (hs.below b) hsP
    rw [e2] at this
    rw [hpl]
    exact this
  rw [hpl] at H2 H3 ⊢
  obtain ⟨x, ex⟩ : ∃ x, x = ints (gS L L.length (natOf P)).2 := ⟨_, rfl⟩
  rw [← ex] at H3 ⊢
  obtain ⟨n, hn⟩ : ∃ n, n = L.length := ⟨_, rfl⟩
  rw [← hn] at H1 H2 H3 ⊢
  clear hg hp h h' hs hs' e1 e2 e3 e4 ex hn hpl h1 h6
  go_enter Tryd.func29, Tryd.ntmps29
  go_wp2_with fail
  refine H1.out.mono ?_
  rintro e w1 ⟨rfl, d1, rfl⟩
  have B1 := Lib.hid (below_drewN (Below.refl w.heap.size w) d1)
  go_wp2_with fail
  refine (H2.out _ B1.out).mono ?_
  rintro e w2 ⟨rfl, d, rfl⟩
  have B2 := Lib.hid (below_drewN (Below.refl w.heap.size w) (d1 + d))
  go_wp2_with fail
  refine (H3.out _ B2.out).mono ?_
  rintro e w3 ⟨v3, rfl, r3, b3⟩
  go_wp2
  go_ret2
  exact ⟨_, rfl, Row.mono r3 B2.out.size, B2.out.trans (b3.mono B2.out.size)⟩
theorem specGr_bad (B B' : Nat) (v v' : Value) (L P : List Int) (hg : IsGraph L) (hp : ¬ IsNames P L.length) (hl : P.length ≤ 1048576) (w : World) (h : Row w B v L) (h' : Row w B' v' P) :
    Calls Tryd.prog 29 #[v, v'] w (Told w [] false) := by
  have h1 := hg.1
  have h6 := hg.2.1
  have H1 := Lib.hid (specIn_any B v L true ⟨fun _ => hg, fun _ => rfl⟩ w h)
  obtain ⟨A, c, rfl, hs⟩ := h.seen
  obtain ⟨A', c', rfl, hs'⟩ := h'.seen
  have H2 := Lib.hid (fun w1 (b : Below w.heap.size w w1) => specNames_any A' c' L.length P false ⟨fun h => (by cases h), fun h => absurd h hp⟩ w1 (hs'.below b) h1 h6 hl)
  obtain ⟨n, hn⟩ : ∃ n, n = L.length := ⟨_, rfl⟩
  rw [← hn] at H1 H2 ⊢
  clear hg hp h h' hs hs' hn h1 h6 hl
  go_enter Tryd.func29, Tryd.ntmps29
  go_wp2_with fail
  refine H1.out.mono ?_
  rintro e w1 ⟨rfl, d1, rfl⟩
  have B1 := Lib.hid (below_drewN (Below.refl w.heap.size w) d1)
  go_wp2_with fail
  refine (H2.out _ B1.out).mono ?_
  rintro e w2 ⟨rfl, d, rfl⟩
  have B2 := Lib.hid (below_drewN (Below.refl w.heap.size w) (d1 + d))
  go_wp2
  go_ret2
  exact ⟨_, rfl, World.ownsRow_lit (base := w.heap.size) (e := 3) (size := 1) _ #[] 0 B2.out.size (by unfold maxLen; omega) rfl, B2.out.alloc B2.out.size _⟩
theorem specGr_none (B B' : Nat) (v v' : Value) (L P : List Int) (hg : ¬ IsGraph L) (w : World) (h : Row w B v L) (h' : Row w B' v' P) :
    Calls Tryd.prog 29 #[v, v'] w (Told w [] false) := by
  have H1 := Lib.hid (specIn_any B v L false ⟨fun h => (by cases h), fun h => absurd h hg⟩ w h)
  clear hg h h'
  go_enter Tryd.func29, Tryd.ntmps29
  go_wp2_with fail
  refine H1.out.mono ?_
  rintro e w1 ⟨rfl, d, rfl⟩
  go_wp2
  go_ret2
  exact ⟨_, rfl, World.ownsRow_lit (base := w.heap.size) (e := 3) (size := 1) (w.drewN d) #[] 0 (Nat.le_refl _) (by unfold maxLen; omega) rfl, (below_drewN (Below.refl _ w) d).alloc (Nat.le_refl _) _⟩
end Go.Proofs.YtcblcifnpgmibaaDoor
