/- The program's texts of tidy terms: bracketed, tidyText. -/
import Derived.Test.YtkninejoliclcaaDoorBaseA
namespace Go.Proofs.YtkninejoliclcaaDoor
open Go Go.RowKit
set_option linter.unusedVariables false
set_option maxRecDepth 100000

/-- Brackets around two texts. -/
def brk (x : List UInt8) (s : Bool) (y : List UInt8) : List UInt8 := 40 :: (x ++ sgB s :: (y ++ [41]))

theorem brk_length (x : List UInt8) (s : Bool) (y : List UInt8) : (brk x s y).length = x.length + y.length + 3 := by unfold brk; simp; omega
theorem txt_len : ∀ t : Tm, t.txt.length + 3 ≤ 4 * t.ones
  | .one => by show 1 + 3 ≤ 4 * 1; omega
  | .neg a => by
    have := a.ones_pos
    show 1 + 3 ≤ 4 * a.ones
    omega
  | .par s a b => by
    have h1 := txt_len a
    have h2 := txt_len b
    have h3 := brk_length a.txt s b.txt
    show (brk a.txt s b.txt).length + 3 ≤ 4 * (a.ones + b.ones)
    omega

set_option maxHeartbeats 1000000 in
theorem bracketed_any (x y : List UInt8) (s : Bool) (h : x.length + y.length ≤ 1000) (w : World) : Calls Tryd.prog 48 #[.string ⟨x.toArray⟩, .string ⟨#[sgB s]⟩, .string ⟨y.toArray⟩] w (Gave w (.string ⟨(brk x s y).toArray⟩)) := by
  have h1 : ¬ 9223372036854775807 < 1 + x.length := by omega
  have h2 : ¬ 9223372036854775807 < 1 + x.length + 1 := by omega
  have h3 : ¬ 9223372036854775807 < 1 + x.length + 1 + y.length := by omega
  have h4 : ¬ 9223372036854775807 < 1 + x.length + 1 + y.length + 1 := by omega
  have he : ({ data := #[40] } ++ { data := x.toArray } ++ { data := #[sgB s] } ++ { data := y.toArray } ++ { data := #[41] } : ByteArray) = ⟨(brk x s y).toArray⟩ := ByteArray.ext (by simp [brk])
  have HE := Lib.hid he
  clear he h
  go_enter Tryd.func48, Tryd.ntmps48
  go_wp2
  go_ret
  exact ⟨congrArg (fun b => Ending.returned (Value.string b)) HE.out, Below.refl _ _⟩

set_option maxHeartbeats 2000000 in
theorem tidyText_any : ∀ (t : Tm) (w : World), t.tidy → t.ones ≤ 6 → Calls Tryd.prog 33 #[ival t] w (Gave w (.string ⟨t.txt.toArray⟩))
  | .one, w, ht, ho => by
    have q := one_par
    show Calls _ _ #[.iface 105 (.agg #[])] w (Gave w (.string ⟨#[49]⟩))
    go_enter Tryd.func33, Tryd.ntmps33
    go_wp2
    go_ret
    exact ⟨rfl, below_alloc_then (Below.refl _ _)⟩
  | .neg a, w, ht, ho => ht.elim
  | .par s a b, w, ht, ho => by
    have q := par_par
    have hoa : a.ones + b.ones ≤ 6 := ho
    have l1 := txt_len a
    have l2 := txt_len b
    have HA := Lib.hid (fun w => tidyText_any a w ht.1 (by omega))
    have HB := Lib.hid (fun w => tidyText_any b w ht.2 (by omega))
    have HK := Lib.hid (fun w => bracketed_any a.txt b.txt s (by omega) w)
    rw [show (Tm.par s a b).txt = brk a.txt s b.txt from rfl]
    show Calls _ _ #[.iface 68 (.agg #[.string ⟨#[sgB s]⟩, ival a, ival b])] w _
    obtain ⟨Ta, Xa, ea⟩ := ival_iface a
    obtain ⟨Tb, Xb, eb⟩ := ival_iface b
    rw [ea] at HA ⊢
    rw [eb] at HB ⊢
    obtain ⟨xa, exa⟩ : ∃ x, x = a.txt := ⟨_, rfl⟩
    obtain ⟨xb, exb⟩ : ∃ x, x = b.txt := ⟨_, rfl⟩
    rw [← exa, ← exb] at HK ⊢
    rw [← exa] at HA
    rw [← exb] at HB
    clear ea eb exa exb ht ho hoa l1 l2
    go_enter Tryd.func33, Tryd.ntmps33
    go_wp2_with fail
    obtain ⟨W, eW⟩ : ∃ W, W = w.alloc (Obj.cells #[.string ⟨#[sgB s]⟩, .iface Ta Xa, .iface Tb Xb] 68) := ⟨_, rfl⟩
    have z0 : W.cell? ⟨w.heap.size, 0, none⟩ = some (.string ⟨#[sgB s]⟩) := by rw [eW]; simp
    have z1 : W.cell? ⟨w.heap.size, 1, none⟩ = some (.iface Ta Xa) := by rw [eW]; simp
    have z2 : W.cell? ⟨w.heap.size, 2, none⟩ = some (.iface Tb Xb) := by rw [eW]; simp
    have BW : Hid (Below w.heap.size w W) := Lib.hid (by rw [eW]; exact (Below.refl _ _).alloc (Nat.le_refl _) _)
    have sW : w.heap.size < W.heap.size := by rw [eW]; simp
    rw [← eW]
    clear eW
    generalize w.heap.size = s0 at z0 z1 z2 sW ⊢
    go_region_with (first
      | (go_at_call_of 33 (Value.iface Ta Xa); refine (HA.out _).mono ?_; rintro e w1 ⟨rfl, b1⟩; have y0 : w1.cell? ⟨s0, 0, none⟩ = some (.string ⟨#[sgB s]⟩) := (b1.cell (p := ⟨s0, 0, none⟩) sW).trans z0; have y2 : w1.cell? ⟨s0, 2, none⟩ = some (.iface Tb Xb) := (b1.cell (p := ⟨s0, 2, none⟩) sW).trans z2)
      | (go_at_call_of 33 (Value.iface Tb Xb); refine (HB.out _).mono ?_; rintro e w2 ⟨rfl, b2⟩; have x0 : w2.cell? ⟨s0, 0, none⟩ = some (.string ⟨#[sgB s]⟩) := (b2.cell (p := ⟨s0, 0, none⟩) (Nat.lt_of_lt_of_le sW b1.size)).trans y0)
      | (go_at_call 48; refine (HK.out _).mono ?_; rintro e w3 ⟨rfl, b3⟩))
    all_goals go_wp2
    all_goals go_ret
    all_goals exact ⟨rfl, BW.out.trans ((below_drew (b1.trans ((b2.trans (b3.mono b2.size)).mono b1.size))).mono BW.out.size)⟩

end Go.Proofs.YtkninejoliclcaaDoor
