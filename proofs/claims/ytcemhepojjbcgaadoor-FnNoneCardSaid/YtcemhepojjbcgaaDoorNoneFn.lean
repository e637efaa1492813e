/- NearNone by the program and by the model. -/
import Derived.Test.YtcemhepojjbcgaaDoorSameAny
import Derived.Test.YtcemhepojjbcgaaDoorBaseE
namespace Go.Proofs.YtcemhepojjbcgaaDoor
open Go Go.RowKit
set_option linter.unusedVariables false
set_option maxRecDepth 100000

def noneB (L : List Int) : Bool := (autosL L).length == 1
theorem noneB_int (L : List Int) : (((autosL L).length : Int) == 1) = noneB L := by
  unfold noneB
  rw [Bool.eq_iff_iff]
  simp
  omega
theorem implNone_yes (B : Nat) (v : Value) (L : List Int) (hg : IsGraph L) (w : World) (h : Row w B v L) (hT : Tab w) :
    Calls Tryd.prog 57 #[v] w (Said1 w (noneB L)) := by
  have ht := hT.lt
  have H1 := Lib.hid (asG_graph B v L hg w h hT)
  obtain ⟨A, c, rfl, hs⟩ := h.seen
  have H2 := Lib.hid (fun w1 (b : Below w.heap.size w w1) => same_any A c L hg w1 (hs.below b) (hT.below b (by omega)))
  have hn := noneB_int L
  obtain ⟨x, ex⟩ : ∃ x, x = (autosL L).length := ⟨_, rfl⟩
  obtain ⟨b, eb⟩ : ∃ b, b = noneB L := ⟨_, rfl⟩
  rw [← ex] at H2 hn
  rw [← eb] at hn ⊢
  clear hg h hs hT ex eb
  go_enter Tryd.func57, Tryd.ntmps57
  go_wp2_with fail
  go_enter Tryd.func75, Tryd.ntmps75
  go_wp2_with fail
  refine H1.out.mono ?_
  rintro e w1 ⟨rfl, b1⟩
  go_wp2_with fail
  refine (H2.out _ b1).mono ?_
  rintro e w2 ⟨rfl, b2⟩
  have b12 := b1.trans (b2.mono b1.size)
  go_wp2
  go_ret
  exact ⟨rfl, b12⟩
theorem implNone_no (B : Nat) (v : Value) (L : List Int) (hg : ¬ IsGraph L) (w : World) (h : Row w B v L) (hT : Tab w) :
    Calls Tryd.prog 57 #[v] w (Said1 w false) := by
  have H1 := Lib.hid (asG_none B v L hg w h hT)
  clear hg h
  go_enter Tryd.func57, Tryd.ntmps57
  go_wp2_with fail
  go_enter Tryd.func75, Tryd.ntmps75
  go_wp2_with fail
  refine H1.out.mono ?_
  rintro e w1 ⟨rfl, b1⟩
  go_wp2
  go_ret
  exact ⟨rfl, b1⟩
theorem specNone_yes (B : Nat) (v : Value) (L : List Int) (hg : IsGraph L) (w : World) (h : Row w B v L) :
    Calls Tryd.prog 58 #[v] w (Said1 w (noneB L)) := by
  have H1 := Lib.hid (specIn_any B v L true ⟨fun _ => hg, fun _ => rfl⟩ w h)
  obtain ⟨A, c, rfl, hs⟩ := h.seen
  have H2 := Lib.hid (fun w1 (b : Below w.heap.size w w1) => specAutos_seen A c L hg w1 (hs.below b))
  have hn := noneB_int L
  obtain ⟨b, eb⟩ : ∃ b, b = noneB L := ⟨_, rfl⟩
  rw [← eb] at hn ⊢
  clear hg h hs eb
  go_enter Tryd.func58, Tryd.ntmps58
  go_wp2_with fail
  refine H1.out.mono ?_
  rintro e w1 ⟨rfl, d, rfl⟩
  go_wp2_with fail
  refine (H2.out _ (below_drewN (Below.refl _ w) d)).mono ?_
  rintro e w2 ⟨u, rfl, hu, b2⟩
  obtain ⟨ob, oc, rfl, _⟩ := hu.shape
  have b12 := (below_drewN (Below.refl _ w) d).trans b2
  go_wp2
  go_ret
  exact ⟨rfl, b12⟩
theorem specNone_no (B : Nat) (v : Value) (L : List Int) (hg : ¬ IsGraph L) (w : World) (h : Row w B v L) :
    Calls Tryd.prog 58 #[v] w (Said1 w false) := by
  have H1 := Lib.hid (specIn_any B v L false ⟨fun h => (by cases h), fun h => absurd h hg⟩ w h)
  clear hg h
  go_enter Tryd.func58, Tryd.ntmps58
  go_wp2_with fail
  refine H1.out.mono ?_
  rintro e w1 ⟨rfl, d, rfl⟩
  go_wp2
  go_ret
  exact ⟨rfl, below_drewN (Below.refl _ w) d⟩
end Go.Proofs.YtcemhepojjbcgaaDoor
