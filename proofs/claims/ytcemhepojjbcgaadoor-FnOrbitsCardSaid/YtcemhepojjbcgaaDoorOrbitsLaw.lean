/- The law FnExactAlikeOrbits returns true at each list, and leaves all that was there as it was. -/
import Derived.Test.YtcemhepojjbcgaaDoorBaseA
import Derived.Test.YtcemhepojjbcgaaDoorSpecOrbits
import Derived.Test.YtcemhepojjbcgaaDoorImplOrbits
namespace Go.Proofs.YtcemhepojjbcgaaDoor
open Go Go.RowKit
set_option linter.unusedVariables false
set_option maxRecDepth 100000


theorem orbits_any (A : Option Addr) (c : Nat) (L : List Int) (hL : IsGraph L) (w : World) (sL : Seen w A L) (hT : Tab w) :
    Calls Tryd.prog 84 #[.slice A L.length c] w (Gave w (ints (orbitsL L))) := by
  have h2 := implOrbits_in A c L hL w sL hT
  rw [autos_eq hL] at h2
  exact callsIn_wide.1 h2
theorem implAlikeOrbits_yes (B : Nat) (v : Value) (L : List Int) (hg : IsGraph L) (w : World) (h : Row w B v L) (hT : Tab w) :
    Calls Tryd.prog 35 #[v] w (Told w (ints (orbitsL L)) true) := by
  have ht := hT.lt
  have H1 := Lib.hid (asG_graph B v L hg w h hT)
  obtain ⟨A, c, rfl, hs⟩ := h.seen
  have H2 := Lib.hid (fun w1 (b : Below w.heap.size w w1) => orbits_any A c L hg w1 (hs.below b) (hT.below b (by omega)))
  clear hg h hs hT
  go_enter Tryd.func35, Tryd.ntmps35
  go_wp2_with fail
  go_enter Tryd.func83, Tryd.ntmps83
  go_wp2_with fail
  refine H1.out.mono ?_
  rintro e w1 ⟨rfl, b1⟩
  go_wp2_with fail
  refine (H2.out _ b1).mono ?_
  rintro e w2 ⟨u, rfl, hu, b2⟩
  go_wp2
  go_ret2
  exact ⟨_, rfl, hu.mono b1.size, b1.trans (b2.mono b1.size)⟩
theorem implAlikeOrbits_no (B : Nat) (v : Value) (L : List Int) (hg : ¬ IsGraph L) (w : World) (h : Row w B v L) (hT : Tab w) :
    Calls Tryd.prog 35 #[v] w (Told w [] false) := by
  have H1 := Lib.hid (asG_none B v L hg w h hT)
  clear hg h
  go_enter Tryd.func35, Tryd.ntmps35
  go_wp2_with fail
  go_enter Tryd.func83, Tryd.ntmps83
  go_wp2_with fail
  refine H1.out.mono ?_
  rintro e w1 ⟨rfl, b1⟩
  go_wp2
  go_ret2
  exact ⟨_, rfl, World.ownsRow_nil w1 w.heap.size 3 1, b1⟩
theorem specOrbits_no (B : Nat) (v : Value) (L : List Int) (hg : ¬ IsGraph L) (w : World) (h : Row w B v L) :
    Calls Tryd.prog 36 #[v] w (Told w [] false) := by
  have BE := Lib.hid ((Below.refl w.heap.size w).alloc (Nat.le_refl _) (.cells #[] 3))
  have E0 := Lib.hid (empty_list w)
  have H1 := Lib.hid (specIn_any B v L false ⟨fun h => (by cases h), fun h => absurd h hg⟩ _ (h.below BE.out))
  clear hg h
  go_enter Tryd.func36, Tryd.ntmps36
  go_wp2_with fail
  refine H1.out.mono ?_
  rintro e w1 ⟨rfl, d, rfl⟩
  go_wp2
  go_ret2
  exact ⟨_, rfl, E0.out.drewN d, below_drewN BE.out d⟩
theorem orbitsL_length {L : List Int} (hL : IsGraph L) : (ints (orbitsL L)).length ≤ 1000 := by
  rw [ints_length]
  have h6 := hL.2.1
  have h := (blkTo_lt (f := setAt (autosL L)) (n := L.length) (fun u hu => setAt_lt hu _ (fun P hP => perms_names _ _ P (List.mem_filter.1 hP).1)) L.length (Nat.le_refl _)).2
  show (blkTo _ _).1.length ≤ 1000
  omega
end Go.Proofs.YtcemhepojjbcgaaDoor
