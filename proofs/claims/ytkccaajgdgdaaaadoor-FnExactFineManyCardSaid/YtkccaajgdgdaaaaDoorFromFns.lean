/- FineFrom, by the model and by the program: the end of some colours. -/
import Derived.Test.YtkccaajgdgdaaaaDoorGiven
import Derived.Test.YtkccaajgdgdaaaaDoorSpecEnd
import Derived.Test.YtkccaajgdgdaaaaDoorEndFn
namespace Go.Proofs.YtkccaajgdgdaaaaDoor
open Go Go.RowKit
set_option linter.unusedVariables false
set_option maxRecDepth 100000

set_option maxHeartbeats 1000000 in
theorem specFineFrom_yes (B B' : Nat) (v v' : Value) (L C : List Int) (hg : GivenC L C) (w : World) (h : Row w B v L) (h' : Row w B' v' C) :
    Calls Tryd.prog 15 #[v, v'] w (Told w (endL L C) true) := by
  have H1 := Lib.hid (given_any B B' v v' L C true ⟨fun _ => hg, fun _ => rfl⟩ w h h')
  obtain ⟨A, c, rfl, hs⟩ := h.seen
  obtain ⟨A', c', rfl, hs'⟩ := h'.seen
  have hnet := net_of hg.1
  have H2 := Lib.hid (fun w hs => specNear_seen A c L hnet w hs)
  have hN := near_of hnet
  have H3 : Hid (∀ (An : Option Addr) (cn : Nat) (w : World), NearSeen w An (nearL L L.length) → Seen w A' C → Calls Tryd.prog 30 #[.slice An (nearL L L.length).length cn, .slice A' C.length c'] w (Gave w (endL L C))) :=
    Lib.hid (fun An cn w hA hC => by rw [nearL_length, hg.2.1]; exact specEnd_seen An A' cn c' L C hnet hg.2.1 w hA hC)
  have HS := Lib.hid hs
  have HS' := Lib.hid hs'
  clear hg h h' hnet hN hs hs'
  go_enter Tryd.func15, Tryd.ntmps15
  go_wp2_with fail
  refine H1.out.mono ?_
  rintro e w1 ⟨rfl, d, rfl⟩
  go_wp2_with fail
  refine (H2.out (w.drewN d) HS.out).mono ?_
  rintro e w2 ⟨nv, rfl, hr, hb⟩
  obtain ⟨An, cn, hnv, hns⟩ := hr.near
  subst hnv
  have hbw : Below w.heap.size w w2 := (below_drewN (Below.refl w.heap.size w) d).trans hb
  go_wp2_with fail
  refine (H3.out An cn w2 hns (HS'.out.below hbw)).mono ?_
  rintro e w3 ⟨u, rfl, hu, hb3⟩
  go_wp2
  go_ret2
  exact ⟨_, rfl, hu.mono hbw.size, hbw.trans (hb3.mono hbw.size)⟩
set_option maxHeartbeats 1000000 in
theorem specFineFrom_no (B B' : Nat) (v v' : Value) (L C : List Int) (hg : ¬ GivenC L C) (w : World) (h : Row w B v L) (h' : Row w B' v' C) :
    Calls Tryd.prog 15 #[v, v'] w (Told w [] false) := by
  have H1 := Lib.hid (given_any B B' v v' L C false ⟨fun h => (by cases h), fun h => absurd h hg⟩ w h h')
  clear hg h h'
  go_enter Tryd.func15, Tryd.ntmps15
  go_wp2_with fail
  refine H1.out.mono ?_
  rintro e w1 ⟨rfl, d, rfl⟩
  go_wp2
  go_ret2
  exact ⟨_, rfl, (rowS_new (w.drewN d)).1, (below_drewN (Below.refl w.heap.size w) d).alloc (Nat.le_refl _) _⟩

set_option maxHeartbeats 1000000 in
theorem implFrom_yes (B B' : Nat) (v v' : Value) (L C : List Int) (hg : GivenC L C) (w : World) (h : Row w B v L) (h' : Row w B' v' C) (hT : TabT w) :
    Calls Tryd.prog 16 #[v, v'] w (Told w (endL L C) true) := by
  have H1 := Lib.hid (asC_any B B' v v' L C true ⟨fun _ => hg, fun _ => rfl⟩ w h h' hT.1)
  have h2 := hT.lt
  obtain ⟨A, c, rfl, hs⟩ := h.seen
  obtain ⟨A', c', rfl, hs'⟩ := h'.seen
  have H2 := Lib.hid (fun w hs hs' ht => callsIn_wide.1 (end_in A A' c c' L C (net_of hg.1) hg.2.1 hg.2.2 w hs hs' ht))
  clear hg h h'
  go_enter Tryd.func16, Tryd.ntmps16
  go_wp2_with fail
  refine H1.out.mono ?_
  rintro e w1 ⟨rfl, b1⟩
  simp only [if_true]
  go_wp2_with fail
  refine (H2.out w1 (hs.below b1) (hs'.below b1) (hT.below b1 (by omega))).mono ?_
  rintro e w2 ⟨u, rfl, hr, hb⟩
  go_wp2
  go_ret2
  exact ⟨_, rfl, hr.mono b1.size, b1.trans (hb.mono b1.size)⟩
set_option maxHeartbeats 1000000 in
theorem implFrom_no (B B' : Nat) (v v' : Value) (L C : List Int) (hg : ¬ GivenC L C) (w : World) (h : Row w B v L) (h' : Row w B' v' C) (hT : TabT w) :
    Calls Tryd.prog 16 #[v, v'] w (Told w [] false) := by
  have H1 := Lib.hid (asC_any B B' v v' L C false ⟨fun h => (by cases h), fun h => absurd h hg⟩ w h h' hT.1)
  clear hg h h' hT
  go_enter Tryd.func16, Tryd.ntmps16
  go_wp2_with fail
  refine H1.out.mono ?_
  rintro e w1 ⟨rfl, b1⟩
  simp only [Bool.false_eq_true, if_false]
  go_wp2
  go_ret2
  exact ⟨_, rfl, World.ownsRow_nil w1 w.heap.size 3 1, b1⟩
end Go.Proofs.YtkccaajgdgdaaaaDoor
