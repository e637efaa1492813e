/- The law FnTree returns true and leaves all that was there as it was, whatever is drawn. -/
import Derived.Test.YtkngijkhhonikaaDoorDrewDef
import Derived.Test.YtkngijkhhonikaaDoorBaseG
import Derived.Test.YtkngijkhhonikaaDoorTreesFn
import Derived.Test.YtkngijkhhonikaaDoorTreeFirstFn
import Derived.Test.YtkngijkhhonikaaDoorCodeLaw
import Derived.Test.YtkngijkhhonikaaDoorTreeProms
namespace Go.Proofs.YtkngijkhhonikaaDoor
open Go Go.RowKit
set_option linter.unusedVariables false
set_option maxRecDepth 100000

set_option maxHeartbeats 800000 in
theorem fnTree_long (A : Option Addr) (n c : Nat) (w : World) (h : 1048576 < n) (hm : n ≤ maxLen) :
    Calls Tryd.prog 3 #[.slice A n c] w (Fine w) := by
  unfold maxLen at hm
  have hd : decide ((1048576 : Int) < (n : Int)) = true := by simp; omega
  go_enter Tryd.func3, Tryd.ntmps3
  go_wp2
  go_ret
  exact ⟨rfl, Below.refl _ _⟩

set_option maxHeartbeats 4000000 in
theorem fnTree_short (A : Option Addr) (n c : Nat) (w : World) (hs : n ≤ 1048576) (hT : Tab w)
    (hD : Calls Tryd.prog 10 #[.slice A n c] w (Drew6 w)) :
    Calls Tryd.prog 3 #[.slice A n c] w (Fine w) := by
  have h2 := hT.lt
  have hd : decide ((1048576 : Int) < (n : Int)) = false := by simp; omega
  have HD := Lib.hid hD
  have HT := Lib.hid hT
  clear hD hT hs
  go_enter Tryd.func3, Tryd.ntmps3
  go_wp2_with fail
  refine HD.out.mono ?_
  rintro e w1 ⟨v, L, rfl, l1, l6, r, b1⟩
  by_cases h : IsTree L
  · have HI := Lib.hid (fun B v w => implTreeIn_any B v L true ⟨fun _ => h, fun _ => rfl⟩ w)
    have HS := Lib.hid (fun B v w => specTreeIn_any B v L true ⟨fun _ => h, fun _ => rfl⟩ w)
    have HN := Lib.hid (fun B v w => implTrees_any B v L w)
    rw [oneSaid_yes h.1.1, tree_one h] at HN
    have HF := Lib.hid (fun B v w => implTF_yes B v L h.1 w)
    rw [tree_first h] at HF
    have HC := Lib.hid (fun B v w => implGraphCode_yes B v L h.1.1 w)
    obtain ⟨x, ex⟩ : ∃ x, x = codeOf L := ⟨_, rfl⟩
    rw [← ex] at HF HC
    clear ex h
    go_wp2_with fail
    refine (HI.out _ v _ r (HT.out.below b1 (by omega))).mono ?_
    rintro e w2 ⟨rfl, bb2⟩
    have b2 := b1.trans (bb2.mono b1.size)
    have r_2 := r.below bb2
    go_wp2_with fail
    refine (HS.out _ v _ r_2).mono ?_
    rintro e w3 ⟨rfl, d3, rfl⟩
    have b3 := below_drewN b2 d3
    have r_3 := r_2.drewN d3
    go_wp2_with fail
    refine (HN.out _ v _ r_3 (HT.out.below b3 (by omega))).mono ?_
    rintro e w4 ⟨rfl, bb4⟩
    have b4 := b3.trans (bb4.mono b3.size)
    have r_4 := r_3.below bb4
    go_wp2_with fail
    refine (HF.out _ v _ r_4 (HT.out.below b4 (by omega))).mono ?_
    rintro e w5 ⟨rfl, bb5⟩
    have b5 := b4.trans (bb5.mono b4.size)
    have r_5 := r_4.below bb5
    go_wp2_with fail
    refine (HC.out _ v _ r_5 (HT.out.below b5 (by omega))).mono ?_
    rintro e w6 ⟨rfl, bb6⟩
    have b6 := b5.trans (bb6.mono b5.size)
    have r_6 := r_5.below bb6
    go_wp2
    go_ret
    exact ⟨by simp, b6⟩
  · have HI := Lib.hid (fun B v w => implTreeIn_any B v L false ⟨fun x => (by cases x), fun x => absurd x h⟩ w)
    have HS := Lib.hid (fun B v w => specTreeIn_any B v L false ⟨fun x => (by cases x), fun x => absurd x h⟩ w)
    clear h
    go_wp2_with fail
    refine (HI.out _ v _ r (HT.out.below b1 (by omega))).mono ?_
    rintro e w2 ⟨rfl, bb2⟩
    have b2 := b1.trans (bb2.mono b1.size)
    have r_2 := r.below bb2
    go_wp2_with fail
    refine (HS.out _ v _ r_2).mono ?_
    rintro e w3 ⟨rfl, d3, rfl⟩
    have b3 := below_drewN b2 d3
    have r_3 := r_2.drewN d3
    go_wp2
    go_ret
    exact ⟨by simp, b3⟩
end Go.Proofs.YtkngijkhhonikaaDoor
