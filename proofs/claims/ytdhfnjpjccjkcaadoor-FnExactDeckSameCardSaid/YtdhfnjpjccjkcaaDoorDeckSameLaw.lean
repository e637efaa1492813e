/- The law FnExactDeckSame at each two lists. -/
import Derived.Test.YtdhfnjpjccjkcaaDoorDeckOfFn
import Derived.Test.YtdhfnjpjccjkcaaDoorListEq
import Derived.Test.YtdhfnjpjccjkcaaDoorBaseA
import Derived.Test.YtdhfnjpjccjkcaaDoorDeckSameOf
namespace Go.Proofs.YtdhfnjpjccjkcaaDoor
open Go Go.RowKit
set_option linter.unusedVariables false
set_option maxRecDepth 100000

open Classical in
/-- What DeckSame answers. -/
noncomputable def sameSaid (L M : List Int) : Bool := decide (Two L ∧ Two M ∧ deckL L = deckL M)
open Classical in
theorem said_no {w : World} {e : Ending} {w' : World} {L M : List Int} (h : ¬ (Two L ∧ Two M ∧ deckL L = deckL M)) (he : Said1 w false e w') : Said1 w (sameSaid L M) e w' := by
  have e0 : sameSaid L M = false := by unfold sameSaid; rw [decide_eq_false_iff_not]; exact h
  rw [e0]; exact he
open Classical in
theorem same_eq {L M : List Int} (hL : Two L) (hM : Two M) : sameSaid L M = decide (deckL L = deckL M) := by
  unfold sameSaid
  by_cases h : deckL L = deckL M
  · rw [decide_eq_true h, decide_eq_true_iff]; exact ⟨hL, hM, h⟩
  · rw [decide_eq_false h, decide_eq_false_iff_not]; exact fun h2 => h h2.2.2

set_option maxHeartbeats 2000000 in
theorem specDeckSame_any (B B' : Nat) (v v' : Value) (L M : List Int) (w : World) (h : Row w B v L) (h' : Row w B' v' M) :
    Calls Tryd.prog 18 #[v, v'] w (Said1 w (sameSaid L M)) := by
  have H1 := Lib.hid (specDeckOf_any B v L w h)
  have H2 := Lib.hid (fun w1 (b : Below w.heap.size w w1) => specDeckOf_any B' v' M w1 (h'.below b))
  clear h h'
  by_cases hL : Two L
  · rw [deckSaid_yes hL] at H1
    by_cases hM : Two M
    · rw [deckSaid_yes hM] at H2
      have HS := Lib.hid (same_eq hL hM)
      have hl1 : (deckL L).length ≤ 1048576 := by rw [deckL_length]; have := hL.1.2.1; omega
      have HL1 := Lib.hid hl1
      clear hL hM hl1
      go_enter Tryd.func18, Tryd.ntmps18
      go_wp2_with fail
      refine H1.out.mono ?_
      rintro e w1 ⟨x, rfl, hx, b1⟩
      have HX := Lib.hid hx
      have B1 := Lib.hid b1
      clear hx b1
      go_wp2_with fail
      refine (H2.out _ B1.out).mono ?_
      rintro e w2 ⟨y, rfl, hy, b2⟩
      obtain ⟨Ay, cy, rfl, sy⟩ := hy.seen
      obtain ⟨Ax, cx, rfl, sx⟩ := (HX.out.below b2).seen
      have HE := Lib.hid (specEq_any Ax Ay cx cy _ _ w2 sx sy HL1.out)
      have BB := Lib.hid (B1.out.trans (b2.mono B1.out.size))
      clear hy sx sy b2
      go_wp2_with fail
      refine HE.out.mono ?_
      rintro e w3 ⟨rfl, d, rfl⟩
      go_wp2
      go_ret
      rw [HS.out]
      exact ⟨rfl, below_drewN BB.out d⟩
    · rw [deckSaid_no hM] at H2
      have HN := Lib.hid (show ¬ (Two L ∧ Two M ∧ deckL L = deckL M) from fun h => hM h.2.1)
      clear hL hM
      go_enter Tryd.func18, Tryd.ntmps18
      go_wp2_with fail
      refine H1.out.mono ?_
      rintro e w1 ⟨x, rfl, hx, b1⟩
      have B1 := Lib.hid b1
      clear hx b1
      go_wp2_with fail
      refine (H2.out _ B1.out).mono ?_
      rintro e w2 ⟨y, rfl, hy, b2⟩
      have BB := Lib.hid (B1.out.trans (b2.mono B1.out.size))
      clear hy b2
      go_wp2
      go_ret
      exact said_no HN.out ⟨rfl, BB.out⟩
  · rw [deckSaid_no hL] at H1
    have HN := Lib.hid (show ¬ (Two L ∧ Two M ∧ deckL L = deckL M) from fun h => hL h.1)
    have HT2 : ∃ ys ok, Hid (∀ w1, Below w.heap.size w w1 → Calls Tryd.prog 15 #[v'] w1 (Told w1 ys ok)) := ⟨_, _, H2⟩
    obtain ⟨ys, ok, H3⟩ := HT2
    clear hL H2
    cases ok
    all_goals
      go_enter Tryd.func18, Tryd.ntmps18
      go_wp2_with fail
      refine H1.out.mono ?_
      rintro e w1 ⟨x, rfl, hx, b1⟩
      have B1 := Lib.hid b1
      clear hx b1
      go_wp2_with fail
      refine (H3.out _ B1.out).mono ?_
      rintro e w2 ⟨y, rfl, hy, b2⟩
      have BB := Lib.hid (B1.out.trans (b2.mono B1.out.size))
      clear hy b2
      go_wp2
      go_ret
      exact said_no HN.out ⟨rfl, BB.out⟩

theorem implDeckSame_none (v v' : Value) (w : World) (h : Calls Tryd.prog 40 #[v, v'] w (GsNo w)) :
    Calls Tryd.prog 19 #[v, v'] w (Said1 w false) := by
  have H1 := Lib.hid h
  clear h
  go_enter Tryd.func19, Tryd.ntmps19
  go_wp2_with fail
  refine H1.out.mono ?_
  rintro e w1 ⟨rfl, b1⟩
  go_wp2
  go_ret
  exact ⟨rfl, b1⟩
set_option maxHeartbeats 2000000 in
theorem implDeckSame_any (B B' : Nat) (v v' : Value) (L M : List Int) (w : World) (h : Row w B v L) (h' : Row w B' v' M) (hT : Tab w) :
    Calls Tryd.prog 19 #[v, v'] w (Said1 w (sameSaid L M)) := by
  have ht := hT.lt
  by_cases hL : IsGraph L
  · by_cases hM : IsGraph M
    · have H1 := Lib.hid (asGs_yes B B' v v' L M hL hM w h h' hT)
      obtain ⟨A, c, rfl, s1⟩ := h.seen
      obtain ⟨A', c', rfl, s2⟩ := h'.seen
      by_cases hl : L.length = M.length
      · have hd : ((L.length : Int) == (M.length : Int)) = true := by simp [hl]
        by_cases h2 : 2 ≤ L.length
        · have hd2 : decide ((2 : Int) ≤ (L.length : Int)) = true := decide_eq_true (by omega)
          have tL : Two L := ⟨hL, h2⟩
          have tM : Two M := ⟨hM, by omega⟩
          have HS := Lib.hid (same_eq tL tM)
          have H2 := Lib.hid (fun w1 (b : Below w.heap.size w w1) => deck_fn A c L tL w1 (s1.below b) (hT.below b (by omega)))
          have H3 := Lib.hid (fun w1 (b : Below w.heap.size w w1) => deck_fn A' c' M tM w1 (s2.below b) (hT.below b (by omega)))
          have hl1 : (deckL L).length ≤ 1048576 := by rw [deckL_length]; have := hL.2.1; omega
          have HL1 := Lib.hid hl1
          clear hL hM h h' s1 s2 hT tL tM h2 hl hl1
          go_enter Tryd.func19, Tryd.ntmps19
          go_wp2_with fail
          refine H1.out.mono ?_
          rintro e w1 ⟨rfl, b1⟩
          have B1 := Lib.hid b1
          clear b1
          go_wp2_with fail
          refine (H2.out _ B1.out).mono ?_
          rintro e w2 ⟨x, rfl, hx, b2⟩
          have HX := Lib.hid hx
          have B2 := Lib.hid (B1.out.trans (b2.mono B1.out.size))
          clear hx b2
          go_wp2_with fail
          refine (H3.out _ B2.out).mono ?_
          rintro e w3 ⟨y, rfl, hy, b3⟩
          obtain ⟨Ay, cy, rfl, sy⟩ := hy.seen
          obtain ⟨Ax, cx, rfl, sx⟩ := (HX.out.below b3).seen
          have HE := Lib.hid (implEq_any Ax Ay cx cy _ _ w3 sx sy HL1.out)
          have B3 := Lib.hid (B2.out.trans (b3.mono B2.out.size))
          clear hy sx sy b3
          go_wp2_with fail
          refine HE.out.mono ?_
          rintro e w4 ⟨rfl, d, rfl⟩
          go_wp2
          go_ret
          rw [HS.out]
          exact ⟨rfl, below_drewN B3.out d⟩
        · have hd2 : decide ((2 : Int) ≤ (L.length : Int)) = false := decide_eq_false (by omega)
          have HN := Lib.hid (show ¬ (Two L ∧ Two M ∧ deckL L = deckL M) from fun h => h2 h.1.2)
          clear hL hM h h' s1 s2 hT h2 hl
          go_enter Tryd.func19, Tryd.ntmps19
          go_wp2_with fail
          refine H1.out.mono ?_
          rintro e w1 ⟨rfl, b1⟩
          go_wp2
          go_ret
          exact said_no HN.out ⟨rfl, b1⟩
      · have hd : ((L.length : Int) == (M.length : Int)) = false := by simp; omega
        have HN := Lib.hid (show ¬ (Two L ∧ Two M ∧ deckL L = deckL M) from fun h => hl (by have := congrArg List.length h.2.2; rwa [deckL_length, deckL_length] at this))
        clear hL hM h h' s1 s2 hT hl
        go_enter Tryd.func19, Tryd.ntmps19
        go_wp2_with fail
        refine H1.out.mono ?_
        rintro e w1 ⟨rfl, b1⟩
        go_wp2
        go_ret
        exact said_no HN.out ⟨rfl, b1⟩
    · exact (implDeckSame_none v v' w (asGs_second B B' v v' L M hL hM w h h' hT)).mono fun e w' h => said_no (fun h => hM h.2.1.1) h
  · exact (implDeckSame_none v v' w (asGs_first B B' v v' L M hL w h h' hT)).mono fun e w' h => said_no (fun h => hL h.1.1) h
theorem deckSameLaw_short (A A' : Option Addr) (c c' : Nat) (L M : List Int) (w : World) (h : Seen w A L) (h' : Seen w A' M) (hT : Tab w) (hs : L.length ≤ 1048576) (hs' : M.length ≤ 1048576) :
    Calls Tryd.prog 5 #[.slice A L.length c, .slice A' M.length c'] w (Fine w) :=
  deckSameLaw_of A A' c c' L M _ w h h' hT hs hs' (fun B B' v v' w a b => specDeckSame_any B B' v v' L M w a b) (fun B B' v v' w a b t => implDeckSame_any B B' v v' L M w a b t)
#print axioms deckSameLaw_short
end Go.Proofs.YtdhfnjpjccjkcaaDoor
