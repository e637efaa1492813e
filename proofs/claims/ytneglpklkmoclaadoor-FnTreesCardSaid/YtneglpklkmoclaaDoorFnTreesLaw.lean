/- The law FnTrees returns true and leaves all that was there as it was, whatever is drawn. -/
import Derived.Test.YtneglpklkmoclaaDoorDrewDef
import Derived.Test.YtneglpklkmoclaaDoorTreesFn
import Derived.Test.YtneglpklkmoclaaDoorImplEdges
import Derived.Test.YtneglpklkmoclaaDoorLinkedLaw
import Derived.Test.YtneglpklkmoclaaDoorTreesProm
namespace Go.Proofs.YtneglpklkmoclaaDoor
open Go Go.RowKit
set_option linter.unusedVariables false
set_option maxRecDepth 100000

set_option maxHeartbeats 800000 in
theorem fnTrees_long (A : Option Addr) (n c : Nat) (w : World) (h : 1048576 < n) (hm : n ≤ maxLen) :
    Calls Tryd.prog 8 #[.slice A n c] w (Fine w) := by
  unfold maxLen at hm
  have hd : decide ((1048576 : Int) < (n : Int)) = true := by simp; omega
  go_enter Tryd.func8, Tryd.ntmps8
  go_wp2
  go_ret
  exact ⟨rfl, Below.refl _ _⟩

set_option maxHeartbeats 4000000 in
theorem fnTrees_short (A : Option Addr) (n c : Nat) (w : World) (hs : n ≤ 1048576) (hT : Tab w)
    (hD : Calls Tryd.prog 24 #[.slice A n c] w (Drew w)) :
    Calls Tryd.prog 8 #[.slice A n c] w (Fine w) := by
  have h2 := hT.lt
  have hd : decide ((1048576 : Int) < (n : Int)) = false := by simp; omega
  have HD := Lib.hid hD
  have HT := Lib.hid hT
  clear hD hT hs
  go_enter Tryd.func8, Tryd.ntmps8
  go_wp2_with fail
  refine HD.out.mono ?_
  rintro e w1 ⟨v, L, rfl, l1, l5, r, b1⟩
  by_cases h : IsGraph L
  · have HI := Lib.hid (fun B v w => implTrees_any B v L w)
    have HS := Lib.hid (fun B v w => specTrees_any B v L w)
    rw [oneSaid_yes h] at HI HS
    have HE := Lib.hid (fun B v w => implGraphEdges_yes B v L h w)
    have HL := Lib.hid (fun B v w => implLinked_yes B v L h w)
    obtain ⟨q1, q2⟩ := trees_linked h l5
    have q3 := treesN_le L
    have q4 := edgesN_le L
    obtain ⟨x, ex⟩ : ∃ x, x = treesN L := ⟨_, rfl⟩
    rw [← ex] at HI HS q1 q2 q3
    obtain ⟨m, em⟩ : ∃ m, m = edgesN L := ⟨_, rfl⟩
    rw [← em] at HE q2 q4
    obtain ⟨b, eb⟩ : ∃ b, b = decide (turns L L.length = 2 ^ L.length - 1) := ⟨_, rfl⟩
    rw [← eb] at HL
    have hb : decide ((0 : Int) < (x : Int)) = b := by rw [eb, decide_eq_decide]; omega
    have hb1 : b = true → m = L.length - 1 → x = 1 := fun e => q2 (of_decide_eq_true (eb ▸ e))
    have HB := Lib.hid (hb)
    have HB1 := Lib.hid (hb1)
    clear ex em eb q1 q2 hb hb1 h
    go_wp2_with fail
    refine (HI.out _ v _ r (HT.out.below b1 (by omega))).mono ?_
    rintro e w2 ⟨rfl, bb2⟩
    have b2 := b1.trans (bb2.mono b1.size)
    have r_2 := r.below bb2
    go_wp2_with fail
    refine (HS.out _ v _ r_2).mono ?_
    rintro e w3 ⟨rfl, bb3⟩
    have b3 := b2.trans (bb3.mono b2.size)
    have r_3 := r_2.below bb3
    go_wp2_with fail
    refine (HE.out _ v _ r_3 (HT.out.below b3 (by omega))).mono ?_
    rintro e w4 ⟨rfl, bb4⟩
    have b4 := b3.trans (bb4.mono b3.size)
    have r_4 := r_3.below bb4
    go_wp2_with fail
    refine (HL.out _ v _ r_4 (HT.out.below b4 (by omega))).mono ?_
    rintro e w5 ⟨rfl, bb5⟩
    have b5 := b4.trans (bb5.mono b4.size)
    have r_5 := r_4.below bb5
    obtain ⟨A1, c1, rfl, _⟩ := r_5.seen
    have hn : wrap64 ((L.length : Int) - 1) = (L.length : Int) - 1 := by unfold wrap64; omega
    cases b with
    | false =>
      have hx0 : x = 0 := by have := of_decide_eq_false HB.out; omega
      subst hx0
      go_wp2
      go_ret
      exact ⟨by simp, b5⟩
    | true =>
      have hx0 : 0 < x := by have := of_decide_eq_true HB.out; omega
      have hx1 : ¬ x = 0 := by omega
      by_cases hm : m = L.length - 1
      · have e := HB1.out rfl hm
        subst e
        have hmb : ((m : Int) != (L.length : Int) - 1) = false := by simp; omega
        clear hm
        go_wp2
        go_ret
        exact ⟨by simp, b5⟩
      · have hmb : ((m : Int) != (L.length : Int) - 1) = true := by simp; omega
        clear hm
        go_wp2
        go_ret
        exact ⟨by simp, b5⟩
  · have HI := Lib.hid (fun B v w => implTrees_any B v L w)
    have HS := Lib.hid (fun B v w => specTrees_any B v L w)
    rw [oneSaid_no h] at HI HS
    clear h
    go_wp2_with fail
    refine (HI.out _ v _ r (HT.out.below b1 (by omega))).mono ?_
    rintro e w2 ⟨rfl, bb2⟩
    have b2 := b1.trans (bb2.mono b1.size)
    have r_2 := r.below bb2
    go_wp2_with fail
    refine (HS.out _ v _ r_2).mono ?_
    rintro e w3 ⟨rfl, bb3⟩
    have b3 := b2.trans (bb3.mono b2.size)
    have r_3 := r_2.below bb3
    go_wp2
    go_ret
    exact ⟨by simp, b3⟩
end Go.Proofs.YtneglpklkmoclaaDoor
