/- The law FnDeck returns true and leaves all that was there as it was, whatever list is drawn. -/
import Derived.Test.YtogmfbhnnnoipaaDoorBaseA
import Derived.Test.YtogmfbhnnnoipaaDoorSameInts
import Derived.Test.YtogmfbhnnnoipaaDoorDeckOfFn
import Derived.Test.YtogmfbhnnnoipaaDoorDeckBackFn
import Derived.Test.YtogmfbhnnnoipaaDoorDegMath
import Derived.Test.YtogmfbhnnnoipaaDoorLeastFn
namespace Go.Proofs.YtogmfbhnnnoipaaDoor
open Go Go.RowKit
set_option linter.unusedVariables false
set_option maxRecDepth 100000

/-- What a draw of a graph gives: any short list. -/
def Drew (w : World) (e : Ending) (w' : World) : Prop := ∃ v L, e = .returned v ∧ 1 ≤ L.length ∧ L.length ≤ 5 ∧ Row w' w.heap.size v L ∧ Below w.heap.size w w'

theorem back_own {L : List Int} (hg : IsGraph L) (h3 : 3 ≤ L.length) (h5 : L.length ≤ 5) : backSaid (L.length : Nat) (deckL L) = (leastL L, true) := by
  rw [backSaid_yes h3 h5 (deck_isDeck hg h3), ownSaid_yes h3 h5 (c := codeOf L) ⟨code_lt L, by rw [codeG_of hg]⟩, codeG_of hg]

set_option maxHeartbeats 800000 in
theorem fnDeck_long (A : Option Addr) (n c : Nat) (w : World) (h : 1048576 < n) (hm : n ≤ maxLen) :
    Calls Tryd.prog 12 #[.slice A n c] w (Fine w) := by
  unfold maxLen at hm
  have hd : decide ((1048576 : Int) < (n : Int)) = true := by simp; omega
  go_enter Tryd.func12, Tryd.ntmps12
  go_wp2
  go_ret
  exact ⟨rfl, Below.refl _ _⟩

set_option maxHeartbeats 1600000 in
theorem fnDeck_short (A : Option Addr) (n c : Nat) (w : World) (hs : n ≤ 1048576) (hT : Tab w)
    (hD : Calls Tryd.prog 35 #[.slice A n c] w (Drew w)) :
    Calls Tryd.prog 12 #[.slice A n c] w (Fine w) := by
  have h2 := hT.lt
  have hd : decide ((1048576 : Int) < (n : Int)) = false := by simp; omega
  have HD := Lib.hid hD
  have HT := Lib.hid hT
  clear hD hT hs
  go_enter Tryd.func12, Tryd.ntmps12
  go_wp2_with fail
  refine HD.out.mono ?_
  rintro e w1 ⟨v, L, rfl, l1, l5, r, b1⟩
  have hlen := deckSaid_length L
  by_cases h : Two L
  · have HI := Lib.hid (fun B v w => implDeckOf_any B v L w)
    have HS := Lib.hid (fun B v w => specDeckOf_any B v L w)
    have HL := Lib.hid (fun B v w => implAlikeLeast_yes B v L h.1 w)
    have HB := Lib.hid (fun (h3 : 3 ≤ L.length) => back_own h.1 h3 l5)
    rw [deckSaid_yes h] at HI HS hlen
    have hl2 := h.2
    clear h
    obtain ⟨D, eD⟩ : ∃ D, D = deckL L := ⟨_, rfl⟩
    rw [← eD] at HI HS HB hlen
    have HLN := Lib.hid (show D.length ≤ 1000 from hlen)
    clear hlen eD
    go_wp2_with fail
    refine (HI.out _ v _ r (HT.out.below b1 (by omega))).mono ?_
    rintro e w2 ⟨u, rfl, ru, bb2⟩
    have b2 := b1.trans (bb2.mono b1.size)
    have r2 := r.below bb2
    go_wp2_with fail
    refine (HS.out _ v _ r2).mono ?_
    rintro e w3 ⟨x, rfl, rx, bb3⟩
    have b3 := b2.trans (bb3.mono b2.size)
    have r3 := r2.below bb3
    have ru3 := ru.below bb3
    go_wp2_with fail
    refine (sameI_yes _ _ u x D _ ru3 rx (by have := HLN.out; omega)).mono ?_
    rintro e w4 ⟨rfl, d, rfl⟩
    have b4 := below_drewN b3 d
    have r4 := r3.drewN d
    have ru4 := ru3.drewN d
    obtain ⟨B, cc, rfl, _⟩ := r4.seen
    go_wp2_with fail
    refine (implBack_any (L.length : Nat) _ u D _ ru4 (HT.out.below b4 (by omega))).mono ?_
    rintro e w5 ⟨rfl, bb5⟩
    have b5 := b4.trans (bb5.mono b4.size)
    have r5 := r4.below bb5
    by_cases h3 : 3 ≤ L.length
    · rw [HB.out h3]
      have c1 : decide ((L.length : Int) < 3) = false := decide_eq_false (by omega)
      have c2 : decide ((5 : Int) < (L.length : Int)) = false := decide_eq_false (by omega)
      go_wp2_with fail
      refine (HL.out _ _ _ r5 (HT.out.below b5 (by omega))).mono ?_
      rintro e w6 ⟨rfl, bb6⟩
      have b6 := b5.trans (bb6.mono b5.size)
      go_wp2
      go_ret
      exact ⟨by simp, b6⟩
    · have c1 : decide ((L.length : Int) < 3) = true := decide_eq_true (by omega)
      go_wp2_with fail
      refine (HL.out _ _ _ r5 (HT.out.below b5 (by omega))).mono ?_
      rintro e w6 ⟨rfl, bb6⟩
      have b6 := b5.trans (bb6.mono b5.size)
      go_wp2
      go_ret
      exact ⟨by simp, b6⟩
  · have HI := Lib.hid (fun B v w => implDeckOf_any B v L w)
    have HS := Lib.hid (fun B v w => specDeckOf_any B v L w)
    rw [deckSaid_no h] at HI HS
    clear h hlen
    go_wp2_with fail
    refine (HI.out _ v _ r (HT.out.below b1 (by omega))).mono ?_
    rintro e w2 ⟨u, rfl, ru, bb2⟩
    have b2 := b1.trans (bb2.mono b1.size)
    have r2 := r.below bb2
    go_wp2_with fail
    refine (HS.out _ v _ r2).mono ?_
    rintro e w3 ⟨x, rfl, rx, bb3⟩
    have b3 := b2.trans (bb3.mono b2.size)
    have ru3 := ru.below bb3
    go_wp2_with fail
    refine (sameI_yes _ _ u x [] _ ru3 rx (by simp)).mono ?_
    rintro e w4 ⟨rfl, d, rfl⟩
    have b4 := below_drewN b3 d
    have ru4 := ru3.drewN d
    have rx4 := rx.drewN d
    go_wp2_with fail
    refine (sameI_yes _ _ u x [] _ ru4 rx4 (by simp)).mono ?_
    rintro e w5 ⟨rfl, d2, rfl⟩
    go_wp2
    go_ret
    exact ⟨by simp, below_drewN b3 (d + d2)⟩
end Go.Proofs.YtogmfbhnnnoipaaDoor
