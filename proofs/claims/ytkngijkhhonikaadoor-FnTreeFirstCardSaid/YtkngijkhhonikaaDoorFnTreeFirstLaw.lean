/- The law FnTreeFirst returns true and leaves all that was there as it was, whatever is drawn. -/
import Derived.Test.YtkngijkhhonikaaDoorDrewDef
import Derived.Test.YtkngijkhhonikaaDoorBaseG
import Derived.Test.YtkngijkhhonikaaDoorTreeFirstFn
import Derived.Test.YtkngijkhhonikaaDoorSpecTreeFirst
import Derived.Test.YtkngijkhhonikaaDoorCodeLaw
import Derived.Test.YtkngijkhhonikaaDoorGraphOf
import Derived.Test.YtkngijkhhonikaaDoorTreeProms
namespace Go.Proofs.YtkngijkhhonikaaDoor
open Go Go.RowKit
set_option linter.unusedVariables false
set_option maxRecDepth 100000

set_option maxHeartbeats 800000 in
theorem fnTreeFirst_long (A : Option Addr) (n c : Nat) (w : World) (h : 1048576 < n) (hm : n ≤ maxLen) :
    Calls Tryd.prog 7 #[.slice A n c] w (Fine w) := by
  unfold maxLen at hm
  have hd : decide ((1048576 : Int) < (n : Int)) = true := by simp; omega
  go_enter Tryd.func7, Tryd.ntmps7
  go_wp2
  go_ret
  exact ⟨rfl, Below.refl _ _⟩

set_option maxHeartbeats 4000000 in
theorem fnTreeFirst_short (A : Option Addr) (n c : Nat) (w : World) (hs : n ≤ 1048576) (hT : Tab w)
    (hD : Calls Tryd.prog 27 #[.slice A n c] w (Drew w)) :
    Calls Tryd.prog 7 #[.slice A n c] w (Fine w) := by
  have h2 := hT.lt
  have hd : decide ((1048576 : Int) < (n : Int)) = false := by simp; omega
  have HD := Lib.hid hD
  have HT := Lib.hid hT
  clear hD hT hs
  go_enter Tryd.func7, Tryd.ntmps7
  go_wp2_with fail
  refine HD.out.mono ?_
  rintro e w1 ⟨v, L, rfl, l1, l5, r, b1⟩
  by_cases h : IsLinked L
  · obtain ⟨q1, q2, q3⟩ := first_tree h
    have HI := Lib.hid (fun B v w => implTF_yes B v L h w)
    have HS := Lib.hid (fun B v w => specTF_yes B v L h w)
    have HC := Lib.hid (fun B v w => implGraphCode_yes B v L h.1 w)
    have q4 := code_15 h.1
    have q5 : frT L < 32768 := Nat.lt_of_lt_of_le q3 (Nat.pow_le_pow_right (n := 2) (by decide) (rows_length _ h.1.2.1))
    have HO := Lib.hid (fun w => implGraphOf_any (L.length : Int) (frT L : Int) w)
    rw [ofSaid_in h.1.1 h.1.2.1 q3] at HO
    have HT2 := Lib.hid (fun B v w => implTreeIn_any B v (codeG L.length (frT L)) true ⟨fun _ => q1, fun _ => rfl⟩ w)
    obtain ⟨M, eM⟩ : ∃ M, M = codeG L.length (frT L) := ⟨_, rfl⟩
    rw [← eM] at HO HT2
    obtain ⟨x, ex⟩ : ∃ x, x = frT L := ⟨_, rfl⟩
    rw [← ex] at HI HS HO q2 q5
    obtain ⟨y, ey⟩ : ∃ y, y = codeOf L := ⟨_, rfl⟩
    rw [← ey] at HC q2 q4
    have hl : bits .andNot .i64 (x : Int) (y : Int) = 0 := by rw [less_op x y (by omega) (by omega), q2]; rfl
    have HL := Lib.hid (hl)
    clear ex ey eM h q1 q2 q3 hl
    go_wp2_with fail
    refine (HI.out _ v _ r (HT.out.below b1 (by omega))).mono ?_
    rintro e w2 ⟨rfl, bb2⟩
    have b2 := b1.trans (bb2.mono b1.size)
    have r_2 := r.below bb2
    go_wp2_with fail
    refine (HS.out _ v _ r_2).mono ?_
    rintro e w3 ⟨rfl, bb3⟩
    have b3 := b2.trans (bb3.mono b2.size)
    have r_3 := r_2.below bb3
    go_wp2_with fail
    refine (HC.out _ v _ r_3 (HT.out.below b3 (by omega))).mono ?_
    rintro e w4 ⟨rfl, bb4⟩
    have b4 := b3.trans (bb4.mono b3.size)
    have r_4 := r_3.below bb4
    obtain ⟨A1, c1, rfl, _⟩ := r_4.seen
    go_wp2_with fail
    refine (HO.out _).mono ?_
    rintro e w5 ⟨vx, rfl, rx0, bb5⟩
    have b5 := b4.trans (bb5.mono b4.size)
    have r_5 := r_4.below bb5
    have hl := HL.out
    go_wp2_with fail
    refine (HT2.out _ vx _ rx0 (HT.out.below b5 (by omega))).mono ?_
    rintro e w6 ⟨rfl, bb6⟩
    have b6 := b5.trans (bb6.mono b5.size)
    have r_6 := r_5.below bb6
    have rx_6 := rx0.below bb6
    go_wp2
    go_ret
    exact ⟨by simp, b6⟩
  · have HI := Lib.hid (fun B v w => implTF_no B v L h w)
    have HS := Lib.hid (fun B v w => specTF_no B v L h w)
    clear h
    go_wp2_with fail
    refine (HI.out _ v _ r (HT.out.below b1 (by omega))).mono ?_
    rintro e w2 ⟨rfl, bb2⟩
    have b2 := b1.trans (bb2.mono b1.size)
    have r_2 := r.below bb2
    go_wp2_with fail
    refine (HS.out _ v _ r_2).mono ?_
    rintro e w3 ⟨rfl, bb3⟩
    have b3 := b2.trans (bb3.mono b2.size)
    have r_3 := r_2.below bb3
    go_wp2
    go_ret
    exact ⟨by simp, b3⟩
end Go.Proofs.YtkngijkhhonikaaDoor
