/- The law FnExactAlikeIn returns true at each two lists, and leaves all that was there as it was. -/
import Derived.Test.YtfgpjgaigfbfcaaDoorAsGraphs
import Derived.Test.YtfgpjgaigfbfcaaDoorSpecAlike
import Derived.Test.YtfgpjgaigfbfcaaDoorImplAlike
import Derived.Test.YtfgpjgaigfbfcaaDoorAlikeInOf
namespace Go.Proofs.YtfgpjgaigfbfcaaDoor
open Go Go.RowKit
set_option linter.unusedVariables false
set_option maxRecDepth 100000

theorem specAlike_first (B B' : Nat) (v v' : Value) (L M : List Int) (hL : ¬ IsGraph L) (w : World) (h : Row w B v L) (h' : Row w B' v' M) :
    Calls Tryd.prog 38 #[v, v'] w (Said1 w false) := by
  have H1 := Lib.hid (specIn_any B v L false ⟨fun h => (by cases h), fun h => absurd h hL⟩ w h)
  clear hL h h'
  go_enter Tryd.func38, Tryd.ntmps38
  go_wp2_with fail
  refine H1.out.mono ?_
  rintro e w1 ⟨rfl, d, rfl⟩
  go_wp2
  go_ret
  exact ⟨rfl, below_drewN (Below.refl _ w) d⟩
theorem specAlike_second (B B' : Nat) (v v' : Value) (L M : List Int) (hL : IsGraph L) (hM : ¬ IsGraph M) (w : World) (h : Row w B v L) (h' : Row w B' v' M) :
    Calls Tryd.prog 38 #[v, v'] w (Said1 w false) := by
  have H1 := Lib.hid (specIn_any B v L true ⟨fun _ => hL, fun _ => rfl⟩ w h)
  have H2 := Lib.hid (fun w h => specIn_any B' v' M false ⟨fun h => (by cases h), fun h => absurd h hM⟩ w h)
  clear hL hM h
  go_enter Tryd.func38, Tryd.ntmps38
  go_wp2_with fail
  refine H1.out.mono ?_
  rintro e w1 ⟨rfl, d, rfl⟩
  go_wp2_with fail
  refine (H2.out (w.drewN d) h').mono ?_
  rintro e w2 ⟨rfl, d2, rfl⟩
  go_wp2
  go_ret
  exact ⟨rfl, below_drewN (Below.refl _ w) (d + d2)⟩
theorem specAlike_len (B B' : Nat) (v v' : Value) (L M : List Int) (hL : IsGraph L) (hM : IsGraph M) (hlm : L.length ≠ M.length) (w : World) (h : Row w B v L) (h' : Row w B' v' M) :
    Calls Tryd.prog 38 #[v, v'] w (Said1 w false) := by
  have H1 := Lib.hid (specIn_any B v L true ⟨fun _ => hL, fun _ => rfl⟩ w h)
  have H2 := Lib.hid (fun w h => specIn_any B' v' M true ⟨fun _ => hM, fun _ => rfl⟩ w h)
  obtain ⟨A, c, rfl, _⟩ := h.seen
  have h2 := h'
  obtain ⟨A', c', rfl, _⟩ := h'.seen
  have hd : ((L.length : Int) == (M.length : Int)) = false := by simp; omega
  clear hL hM h h' hlm
  go_enter Tryd.func38, Tryd.ntmps38
  go_wp2_with fail
  refine H1.out.mono ?_
  rintro e w1 ⟨rfl, d, rfl⟩
  go_wp2_with fail
  refine (H2.out (w.drewN d) h2).mono ?_
  rintro e w2 ⟨rfl, d2, rfl⟩
  go_wp2
  go_ret
  exact ⟨rfl, below_drewN (Below.refl _ w) (d + d2)⟩

theorem implAlike_none (v v' : Value) (w : World) (h : Calls Tryd.prog 61 #[v, v'] w (GsNo w)) :
    Calls Tryd.prog 39 #[v, v'] w (Said1 w false) := by
  have H1 := Lib.hid h
  clear h
  go_enter Tryd.func39, Tryd.ntmps39
  go_wp2_with fail
  refine H1.out.mono ?_
  rintro e w1 ⟨rfl, b1⟩
  go_wp2
  go_ret
  exact ⟨rfl, b1⟩
theorem implAlike_graphs (B B' : Nat) (v v' : Value) (L M : List Int) (b : Bool) (hL : IsGraph L) (hM : IsGraph M) (w : World) (h : Row w B v L) (h' : Row w B' v' M) (hT : Tab w)
    (hF : ∀ A A' c c' w, Seen w A L → Seen w A' M → Tab w → Calls Tryd.prog 65 #[.slice A L.length c, .slice A' M.length c'] w (Said1 w b)) :
    Calls Tryd.prog 39 #[v, v'] w (Said1 w b) := by
  have h2 := hT.lt
  have H1 := Lib.hid (asGs_yes B B' v v' L M hL hM w h h' hT)
  obtain ⟨A, c, rfl, s1⟩ := h.seen
  obtain ⟨A', c', rfl, s2⟩ := h'.seen
  have H2 := Lib.hid (fun w1 (b : Below w.heap.size w w1) => hF A A' c c' w1 (s1.below b) (s2.below b) (hT.below b (by omega)))
  clear hL hM h h' s1 s2 hF hT
  go_enter Tryd.func39, Tryd.ntmps39
  go_wp2_with fail
  refine H1.out.mono ?_
  rintro e w1 ⟨rfl, b1⟩
  go_wp2_with fail
  refine (H2.out w1 b1).mono ?_
  rintro e w2 ⟨rfl, b2⟩
  go_wp2
  go_ret
  exact ⟨rfl, b1.trans (b2.mono b1.size)⟩

theorem alikeInLaw_short (A A' : Option Addr) (c c' : Nat) (L M : List Int) (w : World) (h : Seen w A L) (h' : Seen w A' M) (hT : Tab w) (hs : L.length ≤ 1048576) (hs' : M.length ≤ 1048576) :
    Calls Tryd.prog 13 #[.slice A L.length c, .slice A' M.length c'] w (Fine w) := by
  by_cases hL : IsGraph L
  · by_cases hM : IsGraph M
    · by_cases hl : L.length = M.length
      · exact alikeInLaw_of A A' c c' L M _ w h h' hT hs hs' (fun B B' v v' w a b => specAlike_graphs B B' v v' L M hL hM hl w a b)
          (fun B B' v v' w a b t => implAlike_graphs B B' v v' L M _ hL hM w a b t (fun A A' c c' w sL sM hT => alike_any A A' c c' L M hL hM hl w sL sM hT))
      · exact alikeInLaw_of A A' c c' L M false w h h' hT hs hs' (fun B B' v v' w a b => specAlike_len B B' v v' L M hL hM hl w a b)
          (fun B B' v v' w a b t => implAlike_graphs B B' v v' L M _ hL hM w a b t (fun A A' c c' w _ _ _ => alike_of A A' _ _ c c' [] false w (callsIn_wide.1 (firstLike_len A A' _ _ c c' hl w))))
    · exact alikeInLaw_of A A' c c' L M false w h h' hT hs hs' (fun B B' v v' w a b => specAlike_second B B' v v' L M hL hM w a b) (fun B B' v v' w a b t => implAlike_none v v' w (asGs_second B B' v v' L M hL hM w a b t))
  · exact alikeInLaw_of A A' c c' L M false w h h' hT hs hs' (fun B B' v v' w a b => specAlike_first B B' v v' L M hL w a b) (fun B B' v v' w a b t => implAlike_none v v' w (asGs_first B B' v v' L M hL w a b t))
#print axioms alikeInLaw_short
end Go.Proofs.YtfgpjgaigfbfcaaDoor
