/- NumberDegrees, by the program and by the model. -/
import Derived.Test.YtogmfbhnnnoipaaDoorDegsOf
import Derived.Test.YtogmfbhnnnoipaaDoorSortInts
import Derived.Test.YtogmfbhnnnoipaaDoorBaseA
namespace Go.Proofs.YtogmfbhnnnoipaaDoor
open Go Go.RowKit
set_option linter.unusedVariables false
set_option maxRecDepth 100000

/-- The degrees, none less than the one ahead of it. -/
def rdegL (L : List Int) : List Int := sortL (degL L L.length)
open Classical in
noncomputable def rdegSaid (L : List Int) : List Int × Bool := if IsGraph L then (rdegL L, true) else ([], false)
theorem rdegSaid_yes {L : List Int} (h : IsGraph L) : rdegSaid L = (rdegL L, true) := if_pos h
theorem rdegSaid_no {L : List Int} (h : ¬ IsGraph L) : rdegSaid L = ([], false) := if_neg h
theorem rdegSaid_length (L : List Int) : (rdegSaid L).1.length ≤ 1000 := by
  by_cases h : IsGraph L
  · rw [rdegSaid_yes h]
    show (rdegL L).length ≤ 1000
    unfold rdegL
    rw [sortL_length, degL_length]
    have := h.2.1
    omega
  · rw [rdegSaid_no h]; simp

set_option maxHeartbeats 2000000 in
theorem rising_fn (A : Option Addr) (c : Nat) (L : List Int) (hg : IsGraph L) (w : World) (h : Seen w A L) (hT : Tab w) :
    Calls Tryd.prog 59 #[.slice A L.length c] w (Gave w (rdegL L)) := by
  have H1 := Lib.hid (callsIn_wide.1 (implDegrees_in A c L hg w h hT))
  have hl : (degL L L.length).length = L.length := degL_length L L.length
  have h6 := hg.2.1
  have hr : rdegL L = sortL (degL L L.length) := rfl
  obtain ⟨D, eD⟩ : ∃ D, D = degL L L.length := ⟨_, rfl⟩
  rw [← eD] at H1 hl hr
  rw [hr]
  have HD : Hid (D.length ≤ 1000) := Lib.hid (by omega)
  clear hg h hT eD hr hl h6
  go_enter Tryd.func59, Tryd.ntmps59
  go_wp2_with fail
  refine H1.out.mono ?_
  rintro e w1 ⟨u, rfl, hu, b1⟩
  obtain ⟨A1, c1, rfl, s1⟩ := hu.seen
  have hb := Boxed.new w1 22 (.slice A1 D.length c1)
  have hB := (Below.refl w1.heap.size w1).alloc (Nat.le_refl _) (.cells #[.slice A1 D.length c1] 22)
  have H2 := Lib.hid (sortedI_any w1.heap.size A1 c1 D HD.out (w1.alloc (.cells #[.slice A1 D.length c1] 22)) (by simp) hb.cell (s1.below hB))
  have BB := Lib.hid b1
  have HB := Lib.hid hB
  clear hu s1 b1 hb hB
  go_wp2_with fail
  refine (valuesI_any _ _ _ _).mono ?_
  rintro e w' ⟨rfl, rfl⟩
  go_wp2_with fail
  refine H2.out.mono ?_
  rintro e w2 ⟨v, rfl, r, b⟩
  go_wp2
  go_ret
  exact ⟨v, rfl, r.mono (Nat.le_trans BB.out.size HB.out.size), BB.out.trans ((HB.out.trans (b.mono HB.out.size)).mono BB.out.size)⟩

theorem implRDeg_any (B : Nat) (v : Value) (L : List Int) (w : World) (h : Row w B v L) (hT : Tab w) :
    Calls Tryd.prog 28 #[v] w (Told w (rdegSaid L).1 (rdegSaid L).2) := by
  by_cases hg : IsGraph L
  · rw [rdegSaid_yes hg]
    have H1 := Lib.hid (asG_graph B v L hg w h hT)
    have h2 := hT.lt
    obtain ⟨A, c, rfl, hs⟩ := h.seen
    have H2 := Lib.hid (fun w hs ht => rising_fn A c L hg w hs ht)
    clear hg h
    go_enter Tryd.func28, Tryd.ntmps28
    go_wp2_with fail
    go_enter Tryd.func48, Tryd.ntmps48
    go_wp2_with fail
    refine H1.out.mono ?_
    rintro e w1 ⟨rfl, b1⟩
    go_wp2_with fail
    refine (H2.out w1 (hs.below b1) (hT.below b1 (by omega))).mono ?_
    rintro e w2 ⟨u, rfl, hr, hb⟩
    go_wp2
    go_ret2
    exact ⟨_, rfl, hr.mono b1.size, b1.trans (hb.mono b1.size)⟩
  · rw [rdegSaid_no hg]
    have H1 := Lib.hid (asG_none B v L hg w h hT)
    clear hg h
    go_enter Tryd.func28, Tryd.ntmps28
    go_wp2_with fail
    go_enter Tryd.func48, Tryd.ntmps48
    go_wp2_with fail
    refine H1.out.mono ?_
    rintro e w1 ⟨rfl, b1⟩
    go_wp2
    go_ret2
    exact ⟨_, rfl, World.ownsRow_nil w1 w.heap.size 3 1, b1⟩
theorem specRDeg_any (B : Nat) (v : Value) (L : List Int) (w : World) (h : Row w B v L) :
    Calls Tryd.prog 27 #[v] w (Told w (rdegSaid L).1 (rdegSaid L).2) := by
  by_cases hg : IsGraph L
  · rw [rdegSaid_yes hg]
    have H0 := Lib.hid (specIn_any B v L true ⟨fun _ => hg, fun _ => rfl⟩ w h)
    obtain ⟨A, c, rfl, hs⟩ := h.seen
    have H1 := Lib.hid (fun w hs => specDegrees_seen A c L hg w hs)
    have hl : (degL L L.length).length = L.length := degL_length L L.length
    have h6 := hg.2.1
    have H2 := Lib.hid (fun A c w hs => specSorted_seen A c (degL L L.length) (by omega) w hs)
    have hr : rdegL L = sortL (degL L L.length) := rfl
    obtain ⟨D, eD⟩ : ∃ D, D = degL L L.length := ⟨_, rfl⟩
    rw [← eD] at H1 H2 hl hr
    rw [hr]
    have H := Lib.hid hs
    clear hg h hs eD hr h6
    go_enter Tryd.func27, Tryd.ntmps27
    go_wp2_with fail
    refine H0.out.mono ?_
    rintro e w0 ⟨rfl, d, rfl⟩
    go_wp2_with fail
    refine (H1.out (w.drewN d) H.out).mono ?_
    rintro e w1 ⟨u, rfl, hu, b1⟩
    obtain ⟨A1, c1, rfl, s1⟩ := hu.seen
    have B1 := Lib.hid ((below_drewN (Below.refl _ w) d).trans b1)
    have S1 := Lib.hid s1
    clear hu b1 s1 hl
    go_wp2_with fail
    refine (H2.out A1 c1 _ S1.out).mono ?_
    rintro e w2 ⟨v2, rfl, r2, b2⟩
    go_wp2
    go_ret2
    exact ⟨_, rfl, r2.mono B1.out.size, B1.out.trans (b2.mono B1.out.size)⟩
  · rw [rdegSaid_no hg]
    have H0 := Lib.hid (specIn_any B v L false ⟨fun h => (by cases h), fun h => absurd h hg⟩ w h)
    clear hg h
    go_enter Tryd.func27, Tryd.ntmps27
    go_wp2_with fail
    refine H0.out.mono ?_
    rintro e w0 ⟨rfl, d, rfl⟩
    go_wp2
    go_ret2
    exact ⟨_, rfl, World.ownsRow_lit (base := w.heap.size) (e := 3) (size := 1) (w.drewN d) #[] 0 (Nat.le_refl _) (by unfold maxLen; omega) rfl, (below_drewN (Below.refl _ w) d).alloc (Nat.le_refl _) _⟩
end Go.Proofs.YtogmfbhnnnoipaaDoor
