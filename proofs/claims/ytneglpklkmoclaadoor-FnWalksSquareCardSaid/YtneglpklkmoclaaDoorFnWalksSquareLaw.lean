/- The law FnWalksSquare returns true and leaves all that was there as it was, whatever is drawn. -/
import Derived.Test.YtneglpklkmoclaaDoorDrawWalk
import Derived.Test.YtneglpklkmoclaaDoorBaseW
import Derived.Test.YtneglpklkmoclaaDoorNumProm
namespace Go.Proofs.YtneglpklkmoclaaDoor
open Go Go.RowKit
set_option linter.unusedVariables false
set_option maxRecDepth 100000

set_option maxHeartbeats 800000 in
theorem fnWalksSquare_long (A : Option Addr) (n c : Nat) (w : World) (h : 1048576 < n) (hm : n ≤ maxLen) :
    Calls Tryd.prog 4 #[.slice A n c] w (Fine w) := by
  unfold maxLen at hm
  have hd : decide ((1048576 : Int) < (n : Int)) = true := by simp; omega
  go_enter Tryd.func4, Tryd.ntmps4
  go_wp2
  go_ret
  exact ⟨rfl, Below.refl _ _⟩

set_option maxHeartbeats 4000000 in
theorem fnWalksSquare_short (A : Option Addr) (n c : Nat) (w : World) (hs : n ≤ 1048576) (hT : Tab w)
    (hD : Calls Tryd.prog 10 #[.slice A n c] w (DrewZ w)) :
    Calls Tryd.prog 4 #[.slice A n c] w (Fine w) := by
  have h2 := hT.lt
  have hd : decide ((1048576 : Int) < (n : Int)) = false := by simp; omega
  have HD := Lib.hid hD
  have HT := Lib.hid hT
  clear hD hT hs
  go_enter Tryd.func4, Tryd.ntmps4
  go_wp2_with fail
  refine HD.out.mono ?_
  rintro e w1 ⟨v, L, z, rfl, l1, l6, z1, z2, r, b1⟩
  by_cases h : InLen L z
  · obtain ⟨hg, h0, h12⟩ := h
    obtain ⟨k, rfl⟩ : ∃ k : Nat, z = k := ⟨z.toNat, by omega⟩
    have hk : k ≤ 12 := by omega
    have HI := Lib.hid (fun B v w => implWalks_any B v L k w)
    have HS := Lib.hid (fun B v w => specWalks_any B v L k w)
    rw [walkSaid_yes hg hk] at HI HS
    by_cases hk6 : k ≤ 6
    · have HX := Lib.hid (fun B v w => implWalks_any B v L ((2 * k : Nat) : Int) w)
      rw [walkSaid_yes hg (show 2 * k ≤ 12 by omega)] at HX
      have q1 := walks_square hg k
      have q2 := walks_small L hg.2.1 (2 * k) (by omega)
      have q3 : walksN L k ≤ 6 * (6 * 6 ^ 6) := Nat.le_trans (Nat.le_trans (sumN_le fun v hv => sumN_le fun u hu => wk_le L hg.2.1 k v u) (Nat.mul_le_mul hg.2.1 (Nat.mul_le_mul hg.2.1 (Nat.pow_le_pow_right (by omega) hk6)))) (Nat.le_refl _)
      have q3b : walksN L k ≤ 1679616 := Nat.le_trans q3 (by decide)
      obtain ⟨x, ex⟩ : ∃ x, x = walksN L k := ⟨_, rfl⟩
      rw [← ex] at HI HS q1 q3 q3b
      obtain ⟨y, ey⟩ : ∃ y, y = walksN L (2 * k) := ⟨_, rfl⟩
      rw [← ey] at HX q1 q2
      obtain ⟨X, eX⟩ : ∃ X, X = x * x := ⟨_, rfl⟩
      have qX : X ≤ 1679616 * 1679616 := by rw [eX]; exact Nat.mul_le_mul q3b q3b
      obtain ⟨Y, eY⟩ : ∃ Y, Y = y * L.length := ⟨_, rfl⟩
      have qY : Y ≤ 78364164096 * 6 := by rw [eY]; exact Nat.mul_le_mul q2 l6
      rw [← eX, ← eY] at q1
      have hX : wrap64 ((x : Int) * (x : Int)) = (X : Int) := by rw [← Int.natCast_mul, ← eX]; exact wrap_id (by omega) (by omega)
      have hY : wrap64 ((y : Int) * (L.length : Int)) = (Y : Int) := by rw [← Int.natCast_mul, ← eY]; exact wrap_id (by omega) (by omega)
      have hK : wrap64 (2 * (k : Int)) = ((2 * k : Nat) : Int) := by unfold wrap64; omega
      have hXY : X ≤ Y := q1
      have h6d : decide ((6 : Int) < (k : Int)) = false := by simp; omega
      have HHX := Lib.hid (hX)
      have HHY := Lib.hid (hY)
      have HHK := Lib.hid (hK)
      have HHXY := Lib.hid (hXY)
      clear eX eY ex ey q1 q2 q3 q3b qX qY hX hY hK hXY hg
      go_wp2_with fail
      refine (HI.out _ v _ r (HT.out.below b1 (by omega))).mono ?_
      rintro e w2 ⟨rfl, bb2⟩
      have b2 := b1.trans (bb2.mono b1.size)
      have r_2 := r.below bb2
      go_wp2_with fail
      refine (HS.out _ v _ r_2).mono ?_
      rintro e w3 ⟨rfl, bb3⟩
      have b3 := b2.trans (bb3.mono b2.size)
      have r_3 := r_2.below bb3
      obtain ⟨A1, c1, rfl, _⟩ := r_3.seen
      rw [show ((2 * k : Nat) : Int) = 2 * (k : Int) by omega] at HX
      go_wp2_with fail
      with_reducible refine (HX.out _ _ _ r_3 (HT.out.below b3 (by omega))).mono ?_
      rintro e w4 ⟨rfl, bb4⟩
      have b4 := b3.trans (bb4.mono b3.size)
      have r_4 := r_3.below bb4
      have hX := HHX.out
      have hY := HHY.out
      have hXY := HHXY.out
      go_wp2
      go_ret
      exact ⟨by simp, b4⟩
    · have HX := Lib.hid (fun B v w => implWalks_any B v L ((2 * k : Nat) : Int) w)
      rw [walkSaid_no (f := walksN) (L := L) (k := ((2 * k : Nat) : Int)) (fun h => by have := h.2.2; omega)] at HX
      have hK : wrap64 (2 * (k : Int)) = ((2 * k : Nat) : Int) := by unfold wrap64; omega
      have q3b := walks_small L hg.2.1 k hk
      obtain ⟨x, ex⟩ : ∃ x, x = walksN L k := ⟨_, rfl⟩
      rw [← ex] at HI HS q3b
      have h6d : decide ((6 : Int) < (k : Int)) = true := by simp; omega
      have HHK := Lib.hid (hK)
      clear hK hg ex
      go_wp2_with fail
      refine (HI.out _ v _ r (HT.out.below b1 (by omega))).mono ?_
      rintro e w2 ⟨rfl, bb2⟩
      have b2 := b1.trans (bb2.mono b1.size)
      have r_2 := r.below bb2
      go_wp2_with fail
      refine (HS.out _ v _ r_2).mono ?_
      rintro e w3 ⟨rfl, bb3⟩
      have b3 := b2.trans (bb3.mono b2.size)
      have r_3 := r_2.below bb3
      rw [show ((2 * k : Nat) : Int) = 2 * (k : Int) by omega] at HX
      go_wp2_with fail
      refine (HX.out _ v _ r_3 (HT.out.below b3 (by omega))).mono ?_
      rintro e w4 ⟨rfl, bb4⟩
      have b4 := b3.trans (bb4.mono b3.size)
      have r_4 := r_3.below bb4
      go_wp2
      go_ret
      exact ⟨by simp, b4⟩
  · have HI := Lib.hid (fun B v w => implWalks_any B v L z w)
    have HS := Lib.hid (fun B v w => specWalks_any B v L z w)
    rw [walkSaid_no h] at HI HS
    clear h
    go_wp2_with fail
    refine (HI.out _ v _ r (HT.out.below b1 (by omega))).mono ?_
    rintro e w2 ⟨rfl, bb2⟩
    have b2 := b1.trans (bb2.mono b1.size)
    have r_2 := r.below bb2
    go_wp2_with fail
    refine (HS.out _ v _ r_2).mono ?_
    rintro e w3 ⟨rfl, bb3⟩
    have b3 := b2.trans (bb3.mono b2.size)
    have r_3 := r_2.below bb3
    go_wp2
    go_ret
    exact ⟨by simp, b3⟩
end Go.Proofs.YtneglpklkmoclaaDoor
