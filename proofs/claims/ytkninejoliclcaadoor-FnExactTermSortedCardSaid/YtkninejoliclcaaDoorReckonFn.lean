/- The program's numbers of tidy terms: reckoned, coloursOf, freeOf. -/
import Derived.Test.YtkninejoliclcaaDoorBaseA
namespace Go.Proofs.YtkninejoliclcaaDoor
open Go Go.RowKit
set_option linter.unusedVariables false
set_option maxRecDepth 100000

set_option maxHeartbeats 2000000 in
theorem reckoned_star : ∀ (t : Tm) (w : World), t.tidy → t.ones ≤ 6 → Calls Tryd.prog 54 #[ival t, .func (.func 55) #[] #[], .func (.func 56) #[] #[]] w (Gave w (.int .i64 (t.fo true : Nat)))
  | .one, w, ht, ho => by
    have q := one_par
    show Calls _ _ #[.iface 105 (.agg #[]), _, _] w (Gave w (.int .i64 1))
    go_enter Tryd.func54, Tryd.ntmps54
    go_wp2
    go_ret
    exact ⟨rfl, below_alloc_then (Below.refl _ _)⟩
  | .neg a, w, ht, ho => ht.elim
  | .par s a b, w, ht, ho => by
    have q := par_par
    have hoa : a.ones + b.ones ≤ 6 := ho
    have h1 := a.fo_le true
    have h2 := b.fo_le true
    have HA := Lib.hid (fun w => reckoned_star a w ht.1 (by omega))
    have HB := Lib.hid (fun w => reckoned_star b w ht.2 (by omega))
    obtain ⟨n, hn⟩ : ∃ n, n = (Tm.par s a b).fo true := ⟨_, rfl⟩
    have hn1 : n = (if s = true then a.fo true + b.fo true else max (a.fo true) (b.fo true)) := hn
    rw [← hn]
    obtain ⟨Ta, Xa, ea⟩ := ival_iface a
    obtain ⟨Tb, Xb, eb⟩ := ival_iface b
    rw [ea] at HA
    rw [eb] at HB
    have hv : ival (.par s a b) = .iface 68 (.agg #[.string ⟨#[sgB s]⟩, .iface Ta Xa, .iface Tb Xb]) := by rw [← ea, ← eb]; rfl
    rw [hv]
    clear hv
    obtain ⟨xa, exa⟩ : ∃ x, x = a.fo true := ⟨_, rfl⟩
    obtain ⟨xb, exb⟩ : ∃ x, x = b.fo true := ⟨_, rfl⟩
    rw [← exa] at HA h1 hn1
    rw [← exb] at HB h2 hn1
    have hx : xa + xb ≤ 6 := by omega
    have hw : wrap64 ((xa : Int) + (xb : Int)) = ((xa + xb : Nat) : Int) := by unfold wrap64; omega
    clear ea eb exa exb ht ho hoa h1 h2 hn
    cases s with
    | true =>
      rw [if_pos rfl] at hn1
      rw [hn1]
      clear hn1
      rw [show sgB true = 42 from rfl]
      go_enter Tryd.func54, Tryd.ntmps54
      go_wp2_with fail
      obtain ⟨W, eW⟩ : ∃ W, W = w.alloc (Obj.cells #[.string ⟨#[42]⟩, .iface Ta Xa, .iface Tb Xb] 68) := ⟨_, rfl⟩
      have z0 : W.cell? ⟨w.heap.size, 0, none⟩ = some (.string ⟨#[42]⟩) := by rw [eW]; simp
      have z1 : W.cell? ⟨w.heap.size, 1, none⟩ = some (.iface Ta Xa) := by rw [eW]; simp
      have z2 : W.cell? ⟨w.heap.size, 2, none⟩ = some (.iface Tb Xb) := by rw [eW]; simp
      have BW : Hid (Below w.heap.size w W) := Lib.hid (by rw [eW]; exact (Below.refl _ _).alloc (Nat.le_refl _) _)
      have sW : w.heap.size < W.heap.size := by rw [eW]; simp
      rw [← eW]
      clear eW
      generalize w.heap.size = s0 at z0 z1 z2 sW ⊢
      go_region_with (first
        | (go_at_call_of 54 (Value.iface Ta Xa); refine (HA.out _).mono ?_; rintro e w1 ⟨rfl, b1⟩; have y0 : w1.cell? ⟨s0, 0, none⟩ = some (.string ⟨#[42]⟩) := (b1.cell (p := ⟨s0, 0, none⟩) sW).trans z0; have y2 : w1.cell? ⟨s0, 2, none⟩ = some (.iface Tb Xb) := (b1.cell (p := ⟨s0, 2, none⟩) sW).trans z2)
        | (go_at_call_of 54 (Value.iface Tb Xb); refine (HB.out _).mono ?_; rintro e w2 ⟨rfl, b2⟩; have x0 : w2.cell? ⟨s0, 0, none⟩ = some (.string ⟨#[42]⟩) := (b2.cell (p := ⟨s0, 0, none⟩) (Nat.lt_of_lt_of_le sW b1.size)).trans y0))
      all_goals go_wp2
      all_goals go_ret
      all_goals exact ⟨by first | rfl | (simp; done) | (simp; omega), BW.out.trans ((below_drew (b1.trans (b2.mono b1.size))).mono BW.out.size)⟩
    | false =>
      rw [if_neg (by simp)] at hn1
      rw [hn1]
      clear hn1
      rw [show sgB false = 43 from rfl]
      go_enter Tryd.func54, Tryd.ntmps54
      go_wp2_with fail
      obtain ⟨W, eW⟩ : ∃ W, W = w.alloc (Obj.cells #[.string ⟨#[43]⟩, .iface Ta Xa, .iface Tb Xb] 68) := ⟨_, rfl⟩
      have z0 : W.cell? ⟨w.heap.size, 0, none⟩ = some (.string ⟨#[43]⟩) := by rw [eW]; simp
      have z1 : W.cell? ⟨w.heap.size, 1, none⟩ = some (.iface Ta Xa) := by rw [eW]; simp
      have z2 : W.cell? ⟨w.heap.size, 2, none⟩ = some (.iface Tb Xb) := by rw [eW]; simp
      have BW : Hid (Below w.heap.size w W) := Lib.hid (by rw [eW]; exact (Below.refl _ _).alloc (Nat.le_refl _) _)
      have sW : w.heap.size < W.heap.size := by rw [eW]; simp
      rw [← eW]
      clear eW
      generalize w.heap.size = s0 at z0 z1 z2 sW ⊢
      go_region_with (first
        | (go_at_call_of 54 (Value.iface Ta Xa); refine (HA.out _).mono ?_; rintro e w1 ⟨rfl, b1⟩; have y0 : w1.cell? ⟨s0, 0, none⟩ = some (.string ⟨#[43]⟩) := (b1.cell (p := ⟨s0, 0, none⟩) sW).trans z0; have y2 : w1.cell? ⟨s0, 2, none⟩ = some (.iface Tb Xb) := (b1.cell (p := ⟨s0, 2, none⟩) sW).trans z2)
        | (go_at_call_of 54 (Value.iface Tb Xb); refine (HB.out _).mono ?_; rintro e w2 ⟨rfl, b2⟩; have x0 : w2.cell? ⟨s0, 0, none⟩ = some (.string ⟨#[43]⟩) := (b2.cell (p := ⟨s0, 0, none⟩) (Nat.lt_of_lt_of_le sW b1.size)).trans y0))
      all_goals go_wp2
      all_goals go_ret
      all_goals exact ⟨by first | rfl | (simp; done) | (simp; omega), BW.out.trans ((below_drew (b1.trans (b2.mono b1.size))).mono BW.out.size)⟩

set_option maxHeartbeats 2000000 in
theorem reckoned_plus : ∀ (t : Tm) (w : World), t.tidy → t.ones ≤ 6 → Calls Tryd.prog 54 #[ival t, .func (.func 56) #[] #[], .func (.func 55) #[] #[]] w (Gave w (.int .i64 (t.fo false : Nat)))
  | .one, w, ht, ho => by
    have q := one_par
    show Calls _ _ #[.iface 105 (.agg #[]), _, _] w (Gave w (.int .i64 1))
    go_enter Tryd.func54, Tryd.ntmps54
    go_wp2
    go_ret
    exact ⟨rfl, below_alloc_then (Below.refl _ _)⟩
  | .neg a, w, ht, ho => ht.elim
  | .par s a b, w, ht, ho => by
    have q := par_par
    have hoa : a.ones + b.ones ≤ 6 := ho
    have h1 := a.fo_le false
    have h2 := b.fo_le false
    have HA := Lib.hid (fun w => reckoned_plus a w ht.1 (by omega))
    have HB := Lib.hid (fun w => reckoned_plus b w ht.2 (by omega))
    obtain ⟨n, hn⟩ : ∃ n, n = (Tm.par s a b).fo false := ⟨_, rfl⟩
    have hn1 : n = (if s = false then a.fo false + b.fo false else max (a.fo false) (b.fo false)) := hn
    rw [← hn]
    obtain ⟨Ta, Xa, ea⟩ := ival_iface a
    obtain ⟨Tb, Xb, eb⟩ := ival_iface b
    rw [ea] at HA
    rw [eb] at HB
    have hv : ival (.par s a b) = .iface 68 (.agg #[.string ⟨#[sgB s]⟩, .iface Ta Xa, .iface Tb Xb]) := by rw [← ea, ← eb]; rfl
    rw [hv]
    clear hv
    obtain ⟨xa, exa⟩ : ∃ x, x = a.fo false := ⟨_, rfl⟩
    obtain ⟨xb, exb⟩ : ∃ x, x = b.fo false := ⟨_, rfl⟩
    rw [← exa] at HA h1 hn1
    rw [← exb] at HB h2 hn1
    have hx : xa + xb ≤ 6 := by omega
    have hw : wrap64 ((xa : Int) + (xb : Int)) = ((xa + xb : Nat) : Int) := by unfold wrap64; omega
    clear ea eb exa exb ht ho hoa h1 h2 hn
    cases s with
    | true =>
      rw [if_neg (by simp)] at hn1
      rw [hn1]
      clear hn1
      rw [show sgB true = 42 from rfl]
      go_enter Tryd.func54, Tryd.ntmps54
      go_wp2_with fail
      obtain ⟨W, eW⟩ : ∃ W, W = w.alloc (Obj.cells #[.string ⟨#[42]⟩, .iface Ta Xa, .iface Tb Xb] 68) := ⟨_, rfl⟩
      have z0 : W.cell? ⟨w.heap.size, 0, none⟩ = some (.string ⟨#[42]⟩) := by rw [eW]; simp
      have z1 : W.cell? ⟨w.heap.size, 1, none⟩ = some (.iface Ta Xa) := by rw [eW]; simp
      have z2 : W.cell? ⟨w.heap.size, 2, none⟩ = some (.iface Tb Xb) := by rw [eW]; simp
      have BW : Hid (Below w.heap.size w W) := Lib.hid (by rw [eW]; exact (Below.refl _ _).alloc (Nat.le_refl _) _)
      have sW : w.heap.size < W.heap.size := by rw [eW]; simp
      rw [← eW]
      clear eW
      generalize w.heap.size = s0 at z0 z1 z2 sW ⊢
      go_region_with (first
        | (go_at_call_of 54 (Value.iface Ta Xa); refine (HA.out _).mono ?_; rintro e w1 ⟨rfl, b1⟩; have y0 : w1.cell? ⟨s0, 0, none⟩ = some (.string ⟨#[42]⟩) := (b1.cell (p := ⟨s0, 0, none⟩) sW).trans z0; have y2 : w1.cell? ⟨s0, 2, none⟩ = some (.iface Tb Xb) := (b1.cell (p := ⟨s0, 2, none⟩) sW).trans z2)
        | (go_at_call_of 54 (Value.iface Tb Xb); refine (HB.out _).mono ?_; rintro e w2 ⟨rfl, b2⟩; have x0 : w2.cell? ⟨s0, 0, none⟩ = some (.string ⟨#[42]⟩) := (b2.cell (p := ⟨s0, 0, none⟩) (Nat.lt_of_lt_of_le sW b1.size)).trans y0))
      all_goals go_wp2
      all_goals go_ret
      all_goals exact ⟨by first | rfl | (simp; done) | (simp; omega), BW.out.trans ((below_drew (b1.trans (b2.mono b1.size))).mono BW.out.size)⟩
    | false =>
      rw [if_pos rfl] at hn1
      rw [hn1]
      clear hn1
      rw [show sgB false = 43 from rfl]
      go_enter Tryd.func54, Tryd.ntmps54
      go_wp2_with fail
      obtain ⟨W, eW⟩ : ∃ W, W = w.alloc (Obj.cells #[.string ⟨#[43]⟩, .iface Ta Xa, .iface Tb Xb] 68) := ⟨_, rfl⟩
      have z0 : W.cell? ⟨w.heap.size, 0, none⟩ = some (.string ⟨#[43]⟩) := by rw [eW]; simp
      have z1 : W.cell? ⟨w.heap.size, 1, none⟩ = some (.iface Ta Xa) := by rw [eW]; simp
      have z2 : W.cell? ⟨w.heap.size, 2, none⟩ = some (.iface Tb Xb) := by rw [eW]; simp
      have BW : Hid (Below w.heap.size w W) := Lib.hid (by rw [eW]; exact (Below.refl _ _).alloc (Nat.le_refl _) _)
      have sW : w.heap.size < W.heap.size := by rw [eW]; simp
      rw [← eW]
      clear eW
      generalize w.heap.size = s0 at z0 z1 z2 sW ⊢
      go_region_with (first
        | (go_at_call_of 54 (Value.iface Ta Xa); refine (HA.out _).mono ?_; rintro e w1 ⟨rfl, b1⟩; have y0 : w1.cell? ⟨s0, 0, none⟩ = some (.string ⟨#[43]⟩) := (b1.cell (p := ⟨s0, 0, none⟩) sW).trans z0; have y2 : w1.cell? ⟨s0, 2, none⟩ = some (.iface Tb Xb) := (b1.cell (p := ⟨s0, 2, none⟩) sW).trans z2)
        | (go_at_call_of 54 (Value.iface Tb Xb); refine (HB.out _).mono ?_; rintro e w2 ⟨rfl, b2⟩; have x0 : w2.cell? ⟨s0, 0, none⟩ = some (.string ⟨#[43]⟩) := (b2.cell (p := ⟨s0, 0, none⟩) (Nat.lt_of_lt_of_le sW b1.size)).trans y0))
      all_goals go_wp2
      all_goals go_ret
      all_goals exact ⟨by first | rfl | (simp; done) | (simp; omega), BW.out.trans ((below_drew (b1.trans (b2.mono b1.size))).mono BW.out.size)⟩

end Go.Proofs.YtkninejoliclcaaDoor
