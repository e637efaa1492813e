/- The program's tidy terms and their texts: exchanged, tidied, bracketed, tidyText. -/
import Derived.Test.YtkninejoliclcaaDoorBaseA
namespace Go.Proofs.YtkninejoliclcaaDoor
open Go Go.RowKit
set_option linter.unusedVariables false
set_option maxRecDepth 100000

set_option maxHeartbeats 1000000 in
theorem exchanged_any (s : Bool) (w : World) : Calls Tryd.prog 63 #[.string ⟨#[sgB s]⟩] w (Gave w (.string ⟨#[sgB (!s)]⟩)) := by
  cases s
  all_goals
    go_enter Tryd.func63, Tryd.ntmps63
    go_wp2
    go_ret
    exact ⟨rfl, Below.refl _ _⟩

set_option maxHeartbeats 1000000 in
theorem tidied_any : ∀ (t : Tm) (o : Bool) (w : World), Calls Tryd.prog 47 #[ival t, .bool o] w (Gave w (ival (t.td o)))
  | .one, o, w => by
    have q1 := one_neg
    have q2 := one_par
    show Calls _ _ #[.iface 105 (.agg #[]), .bool o] w (Gave w (.iface 105 (.agg #[])))
    go_enter Tryd.func47, Tryd.ntmps47
    go_wp2
    go_ret
    exact ⟨rfl, Below.refl _ _⟩
  | .neg a, o, w => by
    have q1 := neg_neg
    have H := Lib.hid (fun w => tidied_any a (!o) w)
    show Calls _ _ #[.iface 95 (.agg #[ival a]), .bool o] w (Gave w (ival (a.td (!o))))
    obtain ⟨Ta, Xa, ea⟩ := ival_iface a
    obtain ⟨Tb, Xb, eb⟩ := ival_iface (a.td (!o))
    rw [ea] at H ⊢
    rw [eb] at H ⊢
    clear ea eb
    go_enter Tryd.func47, Tryd.ntmps47
    go_wp2_with fail
    refine (H.out _).mono ?_
    rintro e w1 ⟨rfl, b1⟩
    go_wp2
    go_ret
    exact ⟨rfl, below_alloc_then b1⟩
  | .par s a b, o, w => by
    have q1 := par_neg
    have q2 := par_par
    have HA := Lib.hid (fun w => tidied_any a o w)
    have HB := Lib.hid (fun w => tidied_any b o w)
    show Calls _ _ #[.iface 68 (.agg #[.string ⟨#[sgB s]⟩, ival a, ival b]), .bool o] w (Gave w (.iface 68 (.agg #[.string ⟨#[sgB (s != o)]⟩, ival (a.td o), ival (b.td o)])))
    obtain ⟨Ta, Xa, ea⟩ := ival_iface a
    obtain ⟨Tb, Xb, eb⟩ := ival_iface b
    obtain ⟨Sa, Ya, eya⟩ := ival_iface (a.td o)
    obtain ⟨Sb, Yb, eyb⟩ := ival_iface (b.td o)
    rw [ea, eya] at HA
    rw [eb, eyb] at HB
    rw [ea, eb, eya, eyb]
    clear ea eb eya eyb
    have HE := Lib.hid (fun w => exchanged_any s w)
    cases o with
    | false =>
      rw [show (s != false) = s by cases s <;> rfl]
      clear HE
      go_enter Tryd.func47, Tryd.ntmps47
      go_wp2_with fail
      obtain ⟨W, eW⟩ : ∃ W, W = w.alloc (Obj.cells #[.string ⟨#[sgB s]⟩, .iface Ta Xa, .iface Tb Xb] 68) := ⟨_, rfl⟩
      have z1 : W.cell? ⟨w.heap.size, 1, none⟩ = some (.iface Ta Xa) := by rw [eW]; simp
      have z2 : W.cell? ⟨w.heap.size, 2, none⟩ = some (.iface Tb Xb) := by rw [eW]; simp
      have bW : Below w.heap.size w W := by rw [eW]; exact (Below.refl _ _).alloc (Nat.le_refl _) _
      have sW : w.heap.size < W.heap.size := by rw [eW]; simp
      rw [← eW]
      clear eW
      have BW := Lib.hid bW
      clear bW
      generalize w.heap.size = s0 at z1 z2 sW ⊢
      go_region_with (first
        | (go_at_call_of 47 (Value.iface Ta Xa); refine (HA.out _).mono ?_; rintro e w1 ⟨rfl, b1⟩; have y2 : w1.cell? ⟨s0, 2, none⟩ = some (.iface Tb Xb) := (b1.cell (p := ⟨s0, 2, none⟩) sW).trans z2)
        | (go_at_call_of 47 (Value.iface Tb Xb); refine (HB.out _).mono ?_; rintro e w2 ⟨rfl, b2⟩))
      all_goals go_wp2
      all_goals go_ret
      all_goals exact ⟨rfl, BW.out.trans (((Below.refl _ _).drew.trans (b1.trans (b2.mono b1.size))).mono BW.out.size)⟩
    | true =>
      rw [show (s != true) = !s by cases s <;> rfl]
      go_enter Tryd.func47, Tryd.ntmps47
      go_wp2_with fail
      refine (HE.out _).mono ?_
      rintro e W ⟨rfl, b0⟩
      have z1 : W.cell? ⟨w.heap.size, 1, none⟩ = some (.iface Ta Xa) := by rw [b0.cell (p := ⟨w.heap.size, 1, none⟩) (by simp)]; simp
      have z2 : W.cell? ⟨w.heap.size, 2, none⟩ = some (.iface Tb Xb) := by rw [b0.cell (p := ⟨w.heap.size, 2, none⟩) (by simp)]; simp
      have sW : w.heap.size < W.heap.size := Nat.lt_of_lt_of_le (by simp) b0.size
      have BW := Lib.hid (below_alloc_then b0)
      clear b0 HE
      generalize w.heap.size = s0 at z1 z2 sW ⊢
      go_wp2_with fail
      go_region_with (first
        | (go_at_call_of 47 (Value.iface Ta Xa); refine (HA.out _).mono ?_; rintro e w1 ⟨rfl, b1⟩; have y2 : w1.cell? ⟨s0, 2, none⟩ = some (.iface Tb Xb) := (b1.cell (p := ⟨s0, 2, none⟩) sW).trans z2)
        | (go_at_call_of 47 (Value.iface Tb Xb); refine (HB.out _).mono ?_; rintro e w2 ⟨rfl, b2⟩))
      all_goals go_wp2
      all_goals go_ret
      all_goals exact ⟨rfl, BW.out.trans (((Below.refl _ _).drew.trans (b1.trans (b2.mono b1.size))).mono BW.out.size)⟩

end Go.Proofs.YtkninejoliclcaaDoor
