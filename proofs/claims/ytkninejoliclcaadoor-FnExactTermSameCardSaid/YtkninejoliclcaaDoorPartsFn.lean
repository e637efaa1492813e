/- The program's parts of a tidy term. -/
import Derived.Test.YtkninejoliclcaaDoorRowV
import Derived.Deep.RegionHeld
namespace Go.Proofs.YtkninejoliclcaaDoor
open Go Go.RowKit
set_option linter.unusedVariables false
set_option maxRecDepth 100000

theorem pts_same (s : Bool) (a b : Tm) : (Tm.par s a b).pts s = a.pts s ++ b.pts s := by
  show (if s = s then a.pts s ++ b.pts s else _) = _
  rw [if_pos rfl]
theorem pts_other (s q : Bool) (a b : Tm) (h : ¬ s = q) : (Tm.par s a b).pts q = [.par s a b] := by
  show (if s = q then _ else [Tm.par s a b]) = _
  rw [if_neg h]

/-- How parts ends. -/
def Prt (w : World) (ts : List Tm) (e : Ending) (w' : World) : Prop := ∃ v, e = .returned v ∧ Rw 45 w' w.heap.size v (ts.map ival) ∧ Below w.heap.size w w'

set_option maxHeartbeats 4000000 in
theorem parts_any (q : Bool) : ∀ (t : Tm) (w : World), t.tidy → t.ones ≤ 6 → Calls Tryd.prog 50 #[ival t, .string ⟨#[sgB q]⟩] w (Prt w (t.pts q))
  | .one, w, ht, ho => by
    have q1 := one_par
    show Calls _ _ #[.iface 105 (.agg #[]), _] w (Prt w [.one])
    go_enter Tryd.func50, Tryd.ntmps50
    go_wp2
    go_ret
    exact ⟨.slice (some ⟨w.heap.size + 1, 0, none⟩) 1 1, rfl, Rw.low (Rw.lit' 45 _ (.iface 105 (.agg #[])) (w.heap.size + 1) (by simp)) (Nat.le_succ _), bl_alloc (bl_alloc (Below.refl _ _))⟩
  | .neg a, w, ht, ho => ht.elim
  | .par s a b, w, ht, ho => by
    have q1 := par_par
    have hoa : a.ones + b.ones ≤ 6 := ho
    have la := a.pts_len q
    have lb := b.pts_len q
    have nb := b.pts_ne q
    by_cases hs : s = q
    · subst hs
      rw [pts_same]
      have HA := Lib.hid (fun w => parts_any s a w ht.1 (by omega))
      have HB := Lib.hid (fun w => parts_any s b w ht.2 (by omega))
      obtain ⟨Ta, Xa, ea⟩ := ival_iface a
      obtain ⟨Tb, Xb, eb⟩ := ival_iface b
      rw [ea] at HA
      rw [eb] at HB
      have hv : ival (.par s a b) = .iface 68 (.agg #[.string ⟨#[sgB s]⟩, .iface Ta Xa, .iface Tb Xb]) := by rw [← ea, ← eb]; rfl
      rw [hv]
      have LA := Lib.hid la
      have LB := Lib.hid lb
      have NB := Lib.hid nb
      have OA := Lib.hid hoa
      clear hv ea eb ht ho hoa la lb nb
      have hss : (({ data := #[sgB s] } : ByteArray).toList == ({ data := #[sgB s] } : ByteArray).toList) = true := beq_self_eq_true _
      go_enter Tryd.func50, Tryd.ntmps50
      go_wp2_with fail
      obtain ⟨W, eW⟩ : ∃ W, W = w.alloc (Obj.cells #[.string ⟨#[sgB s]⟩, .iface Ta Xa, .iface Tb Xb] 68) := ⟨_, rfl⟩
      have z1 : W.cell? ⟨w.heap.size, 1, none⟩ = some (.iface Ta Xa) := by rw [eW]; simp
      have z2 : W.cell? ⟨w.heap.size, 2, none⟩ = some (.iface Tb Xb) := by rw [eW]; simp
      have BW : Hid (Below w.heap.size w W) := Lib.hid (by rw [eW]; exact bl_alloc (Below.refl _ _))
      have sW : w.heap.size < W.heap.size := by rw [eW]; simp
      rw [← eW]
      clear eW
      generalize w.heap.size = s0 at z1 z2 sW ⊢
      go_region_held_law (fun w' => w'.cell? ⟨s0, 1, none⟩ = some (.iface Ta Xa) ∧ w'.cell? ⟨s0, 2, none⟩ = some (.iface Tb Xb))
        (first | exact ⟨z1, z2⟩ | exact ⟨(b1.cell (p := ⟨s0, 1, none⟩) sW).trans z1, (b1.cell (p := ⟨s0, 2, none⟩) sW).trans z2⟩ | exact C2 | exact C3) (first
        | (refine step_rw Tryd.underlying73 infoTerm rfl rfl (.tmp 22) (.tmp 26) rfl w2 W.heap.size va ((a.pts s).map ival) ((b.pts s).map ival) gb 0 (b.pts s).length cb rfl (by simp) rfl RA2.out (fun k hk => by rw [Nat.zero_add]; exact HCL.out k hk) (ival_one _) SW2.out (by rw [List.length_map, List.length_map]; have := LA.out; have := LB.out; have := OA.out; omega) ?_
           intro v3 w3 hv3 hb3 hg3
           have C3 : w3.cell? ⟨s0, 1, none⟩ = some (.iface Ta Xa) ∧ w3.cell? ⟨s0, 2, none⟩ = some (.iface Tb Xb) := ⟨(hb3.out.cell (p := ⟨s0, 1, none⟩) sW).trans C2.1, (hb3.out.cell (p := ⟨s0, 2, none⟩) sW).trans C2.2⟩)
        | (go_at_call_of 50 (Value.iface Ta Xa); refine (HA.out _).mono ?_; rintro e w1 ⟨va, rfl, ra, b1⟩; have RA := Lib.hid ra; clear ra)
        | (go_at_call_of 50 (Value.iface Tb Xb); refine (HB.out _).mono ?_; rintro e w2 ⟨vb, rfl, rb, b2⟩
           obtain ⟨gb, cb, rfl, hb1, hb2, hb3, hb4, hcell⟩ := rb.form (fun h => NB.out (List.map_eq_nil_iff.1 h))
           rw [List.length_map]
           have HCL := Lib.hid hcell
           have RA2 := Lib.hid (RA.out.low (B' := W.heap.size) (by simp) |>.below b2)
           have SW2 : Hid (W.heap.size ≤ w2.heap.size) := Lib.hid (Nat.le_trans (by simp) (Nat.le_trans b1.size b2.size))
           have C2 : w2.cell? ⟨s0, 1, none⟩ = some (.iface Ta Xa) ∧ w2.cell? ⟨s0, 2, none⟩ = some (.iface Tb Xb) := ⟨(b2.cell (p := ⟨s0, 1, none⟩) (Nat.lt_of_lt_of_le sW b1.size)).trans ((b1.cell (p := ⟨s0, 1, none⟩) sW).trans z1), (b2.cell (p := ⟨s0, 2, none⟩) (Nat.lt_of_lt_of_le sW b1.size)).trans ((b1.cell (p := ⟨s0, 2, none⟩) sW).trans z2)⟩
           clear rb hcell))
      all_goals go_wp2
      all_goals go_ret
      refine ⟨v3, by simp, ?_, ?_⟩
      · rw [List.map_append]
        exact Rw.low hv3.out BW.out.size
      · exact bl_then BW.out ((below_drew (b1.trans (b2.mono b1.size))).trans hb3.out)
    · rw [pts_other s q a b hs]
      obtain ⟨Ta, Xa, ea⟩ := ival_iface a
      obtain ⟨Tb, Xb, eb⟩ := ival_iface b
      have hv : ival (.par s a b) = .iface 68 (.agg #[.string ⟨#[sgB s]⟩, .iface Ta Xa, .iface Tb Xb]) := by rw [← ea, ← eb]; rfl
      unfold Prt
      simp only [List.map_cons, List.map_nil, hv]
      have hq : q = !s := by cases s <;> cases q <;> simp at hs ⊢
      subst hq
      clear hv ea eb ht ho hoa la lb nb hs
      cases s with
      | false =>
        show Calls _ _ #[.iface 68 (.agg #[.string ⟨#[43]⟩, .iface Ta Xa, .iface Tb Xb]), .string ⟨#[42]⟩] w _
        go_enter Tryd.func50, Tryd.ntmps50
        go_wp2
        go_ret
        exact ⟨.slice (some ⟨w.heap.size + 1, 0, none⟩) 1 1, rfl, Rw.low (Rw.lit' 45 _ _ (w.heap.size + 1) (by simp)) (Nat.le_succ _), bl_alloc (bl_alloc (Below.refl _ _))⟩
      | true =>
        show Calls _ _ #[.iface 68 (.agg #[.string ⟨#[42]⟩, .iface Ta Xa, .iface Tb Xb]), .string ⟨#[43]⟩] w _
        go_enter Tryd.func50, Tryd.ntmps50
        go_wp2
        go_ret
        exact ⟨.slice (some ⟨w.heap.size + 1, 0, none⟩) 1 1, rfl, Rw.low (Rw.lit' 45 _ _ (w.heap.size + 1) (by simp)) (Nat.le_succ _), bl_alloc (bl_alloc (Below.refl _ _))⟩

end Go.Proofs.YtkninejoliclcaaDoor
