/- The law FnExactGraphJoin returns true at each two lists, and leaves all that was there as it was. -/
import Derived.Test.YtfgpjgaigfbfcaaDoorImplJoin
import Derived.Test.YtfgpjgaigfbfcaaDoorAsGraphs
namespace Go.Proofs.YtfgpjgaigfbfcaaDoor
open Go.RowKit
set_option linter.unusedVariables false

set_option maxHeartbeats 1000000 in
theorem implJoin_none (v v' : Value) (w : World) (h : Calls Tryd.prog 61 #[v, v'] w (GsNo w)) :
    Calls Tryd.prog 35 #[v, v'] w (Told w [] false) := by
  have H1 := Lib.hid h
  clear h
  go_enter Tryd.func35, Tryd.ntmps35
  go_wp2_with fail
  refine H1.out.mono ?_
  rintro e w1 ⟨rfl, b1⟩
  go_wp2
  go_ret2
  exact ⟨_, rfl, World.ownsRow_nil w1 w.heap.size 3 1, b1⟩
theorem implJoin_first (B B' : Nat) (v v' : Value) (L M : List Int) (hL : ¬ IsGraph L) (w : World) (h : Row w B v L) (h' : Row w B' v' M) (hT : Tab w) :
    Calls Tryd.prog 35 #[v, v'] w (Told w [] false) := implJoin_none v v' w (asGs_first B B' v v' L M hL w h h' hT)
theorem implJoin_second (B B' : Nat) (v v' : Value) (L M : List Int) (hL : IsGraph L) (hM : ¬ IsGraph M) (w : World) (h : Row w B v L) (h' : Row w B' v' M) (hT : Tab w) :
    Calls Tryd.prog 35 #[v, v'] w (Told w [] false) := implJoin_none v v' w (asGs_second B B' v v' L M hL hM w h h' hT)
set_option maxHeartbeats 1000000 in
theorem implJoin_more (B B' : Nat) (v v' : Value) (L M : List Int) (hL : IsGraph L) (hM : IsGraph M) (h6 : 6 < L.length + M.length) (w : World) (h : Row w B v L) (h' : Row w B' v' M) (hT : Tab w) :
    Calls Tryd.prog 35 #[v, v'] w (Told w [] false) := by
  have h2 := hT.lt
  have l1 := hL.2.1
  have l2 := hM.2.1
  have H1 := Lib.hid (asGs_yes B B' v v' L M hL hM w h h' hT)
  obtain ⟨A, c, rfl, _⟩ := h.seen
  obtain ⟨A', c', rfl, _⟩ := h'.seen
  have hd : decide ((6 : Int) < (L.length : Int) + (M.length : Int)) = true := by simp; omega
  clear hL hM h h'
  go_enter Tryd.func35, Tryd.ntmps35
  go_wp2_with fail
  refine H1.out.mono ?_
  rintro e w1 ⟨rfl, b1⟩
  go_wp2
  go_ret2
  exact ⟨_, rfl, World.ownsRow_nil w1 w.heap.size 3 1, b1⟩
set_option maxHeartbeats 1000000 in
theorem implJoin_both (B B' : Nat) (v v' : Value) (L M : List Int) (hL : IsGraph L) (hM : IsGraph M) (h6 : L.length + M.length ≤ 6) (w : World) (h : Row w B v L) (h' : Row w B' v' M) (hT : Tab w) :
    Calls Tryd.prog 35 #[v, v'] w (Told w (joinL L M) true) := by
  have h2 := hT.lt
  have l1 := hL.2.1
  have l2 := hM.2.1
  have H1 := Lib.hid (asGs_yes B B' v v' L M hL hM w h h' hT)
  have H3 := Lib.hid (fun w h h' => beside_any B B' v v' L M hL hM h6 w h h')
  have hr := Lib.hid h'
  have hr0 := Lib.hid h
  obtain ⟨A, c, rfl, _⟩ := h.seen
  obtain ⟨A', c', rfl, _⟩ := h'.seen
  have hd : decide ((6 : Int) < (L.length : Int) + (M.length : Int)) = false := by simp; omega
  clear hL hM h h'
  go_enter Tryd.func35, Tryd.ntmps35
  go_wp2_with fail
  refine H1.out.mono ?_
  rintro e w2 ⟨rfl, b3⟩
  go_wp2_with fail
  refine (H3.out w2 (hr0.out.below b3) (hr.out.below b3)).mono ?_
  rintro e w3 ⟨u, rfl, ru, b4⟩
  go_wp2
  go_ret2
  exact ⟨_, rfl, ru.mono b3.size, b3.trans (b4.mono b3.size)⟩

theorem joinLaw_short (A A' : Option Addr) (c c' : Nat) (L M : List Int) (w : World) (h : Seen w A L) (h' : Seen w A' M) (hT : Tab w) (hs : L.length ≤ 1048576) (hs' : M.length ≤ 1048576) :
    Calls Tryd.prog 11 #[.slice A L.length c, .slice A' M.length c'] w (Fine w) := by
  by_cases hL : IsGraph L
  · by_cases hM : IsGraph M
    · by_cases h6 : L.length + M.length ≤ 6
      · exact joinLaw_of A A' c c' L M w h h' hT hs hs' (joinL L M) true (by unfold joinL; rw [List.length_append, upL_length]; omega) (fun B B' v v' w a b => specJoin_both B B' v v' L M hL hM h6 w a b) (fun B B' v v' w a b t => implJoin_both B B' v v' L M hL hM h6 w a b t)
      · exact joinLaw_of A A' c c' L M w h h' hT hs hs' [] false (by simp) (fun B B' v v' w a b => specJoin_more B B' v v' L M hL hM (by omega) w a b) (fun B B' v v' w a b t => implJoin_more B B' v v' L M hL hM (by omega) w a b t)
    · exact joinLaw_of A A' c c' L M w h h' hT hs hs' [] false (by simp) (fun B B' v v' w a b => specJoin_second B B' v v' L M hL hM w a b) (fun B B' v v' w a b t => implJoin_second B B' v v' L M hL hM w a b t)
  · exact joinLaw_of A A' c c' L M w h h' hT hs hs' [] false (by simp) (fun B B' v v' w a b => specJoin_first B B' v v' L M hL w a b) (fun B B' v v' w a b t => implJoin_first B B' v v' L M hL w a b t)
#print axioms joinLaw_short
end Go.Proofs.YtfgpjgaigfbfcaaDoor
