/- The model's tidy terms: l11Tidy. -/
import Derived.Test.YtkninejoliclcaaDoorSpecRead
import Derived.Deep.RegionHeld
namespace Go.Proofs.YtkninejoliclcaaDoor
open Go Go.RowKit
set_option linter.unusedVariables false
set_option maxRecDepth 100000

/-- How a call ends whose one result is kept in a box. -/
theorem ret_box1 {P : Program} {fn : Func} {R : Ending → World → Prop} {p : Tmp} {ty : TypeId} {a : Act} {w : World} {b : Addr} {v : Value}
    (h : fn.results = #[.cell p ty]) (hd : a.defers = []) (hp : a.tmps.getD p undef = .pointer (some b)) (hv : (loadVar ty b).run P w = .ok v w) (hR : R (.returned v) w) : bodyPost P fn R .ret a w := by
  refine bodyPost_ret (v := v) ?_ hd hR
  have hp' : a.tmps[p]?.getD undef = .pointer (some b) := by rw [← hp]; simp
  simp only [results, h]
  simp [hp', asAddr, hv]

theorem sgI_true : sgI true = 42 := rfl
theorem sgI_false : sgI false = 43 := rfl
/-- A cell elsewhere, behind a store into a box and a new block. -/
theorem cell_past (w : World) (s g i : Nat) (u u' : Value) (o : Obj) (hne : g ≠ s) (hlt : g < w.heap.size) : (((w.setCell ⟨s, 0, none⟩ u).setCell ⟨s, 1, none⟩ u').alloc o).cell? ⟨g, i, none⟩ = w.cell? ⟨g, i, none⟩ := by
  rw [World.cell?_alloc_lt _ _ ⟨g, i, none⟩ (by simp; exact hlt), World.cell?_setCell_far _ _ _ _ (fun e => hne e.symm), World.cell?_setCell_far _ _ _ _ (fun e => hne e.symm)]

/-- How l11Tidy ends. -/
def STd (w : World) (t : Tm) (e : Ending) (w' : World) : Prop :=
  ∃ c A n k, e = .returned (.agg #[.int .u8 c, .slice A n k]) ∧ TmAt w' w.heap.size t (.agg #[.int .u8 c, .slice A n k]) ∧ Below w.heap.size w w'

set_option maxHeartbeats 4000000 in
theorem specTidy_any : ∀ (t : Tm) (o : Bool) (w : World) (c : Int) (A : Option Addr) (n k : Nat), TmAt w 0 t (.agg #[.int .u8 c, .slice A n k]) →
    Calls Tryd.prog 31 #[.agg #[.int .u8 c, .slice A n k], .bool o] w (STd w (t.td o))
  | .one, o, w, c, A, n, k, h => by
    obtain ⟨A', n', k', e⟩ := h
    cases e
    go_enter Tryd.func31, Tryd.ntmps31
    go_wp2
    refine ret_box1 rfl rfl rfl (load_term (w.heap.size + 1) _ (.int .u8 49) (.slice A n k) (by simp [go_sem]) (by simp [go_sem])) ?_
    exact ⟨_, _, _, _, rfl, ⟨_, _, _, rfl⟩, bl_alloc (bl_alloc (Below.refl _ _))⟩
  | .neg a, o, w, c, A, n, k, h => by
    obtain ⟨g, c1, A1, n1, k1, e, hB, hg, h0, h1, ha⟩ := h
    cases e
    have HA : Hid (∀ w', Below w.heap.size w w' → Calls Tryd.prog 31 #[.agg #[.int .u8 c1, .slice A1 n1 k1], .bool (!o)] w' (STd w' (a.td (!o)))) := Lib.hid (fun w' h' => specTidy_any a (!o) w' c1 A1 n1 k1 (ha.below h'))
    have gn : ¬ g = w.heap.size := by omega
    clear ha hB
    go_enter Tryd.func31, Tryd.ntmps31
    go_wp2_with fail
    refine (HA.out _ (bl_alloc (bl_alloc (Below.refl _ _)))).mono ?_
    rintro e w1 ⟨c2, A2, n2, k2, rfl, t1, b1⟩
    have z0 : w1.cell? ⟨w.heap.size + 1, 0, none⟩ = some (.int .u8 0) := (b1.cell (p := ⟨w.heap.size + 1, 0, none⟩) (by simp)).trans (by simp [go_sem])
    have z1 : w1.cell? ⟨w.heap.size + 1, 1, none⟩ = some (.slice none 0 0) := (b1.cell (p := ⟨w.heap.size + 1, 1, none⟩) (by simp)).trans (by simp [go_sem])
    have f0 : w1.frozen? ⟨w.heap.size + 1, 0, none⟩ = false := (b1.frozen (p := ⟨w.heap.size + 1, 0, none⟩) (by simp)).trans (by simp [go_sem])
    have f1 : w1.frozen? ⟨w.heap.size + 1, 1, none⟩ = false := (b1.frozen (p := ⟨w.heap.size + 1, 1, none⟩) (by simp)).trans (by simp [go_sem])
    have T1 : Hid (TmAt w1 (w.heap.size + 2) (a.td (!o)) (.agg #[.int .u8 c2, .slice A2 n2 k2])) := Lib.hid (by have := t1; simp only [World.size_alloc] at this; exact this)
    have BW := Lib.hid (bl_then (bl_alloc (bl_alloc (Below.refl w.heap.size w))) b1)
    clear b1 t1 HA h0 h1
    generalize hs : w.heap.size = s at z0 z1 f0 f1 T1 ⊢
    go_wp2
    refine ret_box1 rfl rfl rfl (load_term (s + 1) _ (.int .u8 c2) (.slice A2 n2 k2) (by simp [go_sem, z0]) (by simp [go_sem, z1])) ?_
    exact ⟨_, _, _, _, rfl, TmAt.low (by omega) ((T1.out.set (by omega)).set (by omega)), bl_set (bl_set BW.out (by show w.heap.size ≤ s + 1; omega)) (by show w.heap.size ≤ s + 1; omega)⟩
  | .par s a b, o, w, c, A, n, k, h => by
    obtain ⟨g, c1, A1, n1, k1, c2, A2, n2, k2, e, hB, hg, h0, h1, h2, h3, ha, hb⟩ := h
    cases e
    have HA : Hid (∀ w', Below w.heap.size w w' → Calls Tryd.prog 31 #[.agg #[.int .u8 c1, .slice A1 n1 k1], .bool o] w' (STd w' (a.td o))) := Lib.hid (fun w' h' => specTidy_any a o w' c1 A1 n1 k1 (ha.below h'))
    have HB : Hid (∀ w', Below w.heap.size w w' → Calls Tryd.prog 31 #[.agg #[.int .u8 c2, .slice A2 n2 k2], .bool o] w' (STd w' (b.td o))) := Lib.hid (fun w' h' => specTidy_any b o w' c2 A2 n2 k2 (hb.below h'))
    have gn : ¬ g = w.heap.size := by omega
    have bW : Below w.heap.size w ((w.alloc (.cells #[.int .u8 (sgI s), .slice (some ⟨g, 0, none⟩) 2 2] 35)).alloc (.cells #[.int .u8 0, .slice none 0 0] 35)) := bl_alloc (bl_alloc (Below.refl _ _))
    have HS : Hid (∀ w1, Below ((w.alloc (.cells #[.int .u8 (sgI s), .slice (some ⟨g, 0, none⟩) 2 2] 35)).alloc (.cells #[.int .u8 0, .slice none 0 0] 35)).heap.size ((w.alloc (.cells #[.int .u8 (sgI s), .slice (some ⟨g, 0, none⟩) 2 2] 35)).alloc (.cells #[.int .u8 0, .slice none 0 0] 35)) w1 →
        w1.cell? ⟨w.heap.size, 0, none⟩ = some (.int .u8 (sgI s)) ∧ w1.cell? ⟨w.heap.size, 1, none⟩ = some (.slice (some ⟨g, 0, none⟩) 2 2) ∧ w1.cell? ⟨g, 0, none⟩ = some (.int .u8 c1) ∧ w1.cell? ⟨g, 1, none⟩ = some (.slice A1 n1 k1) ∧ w1.cell? ⟨g, 2, none⟩ = some (.int .u8 c2) ∧ w1.cell? ⟨g, 3, none⟩ = some (.slice A2 n2 k2)) := Lib.hid (fun w1 b1 =>
      ⟨(b1.cell (p := ⟨w.heap.size, 0, none⟩) (by simp; omega)).trans (by simp [go_sem]), (b1.cell (p := ⟨w.heap.size, 1, none⟩) (by simp; omega)).trans (by simp [go_sem]), ((bl_then bW b1).cell (p := ⟨g, 0, none⟩) hg).trans h0, ((bl_then bW b1).cell (p := ⟨g, 1, none⟩) hg).trans h1, ((bl_then bW b1).cell (p := ⟨g, 2, none⟩) hg).trans h2, ((bl_then bW b1).cell (p := ⟨g, 3, none⟩) hg).trans h3⟩)
    have HZ : Hid (∀ w1, Below ((w.alloc (.cells #[.int .u8 (sgI s), .slice (some ⟨g, 0, none⟩) 2 2] 35)).alloc (.cells #[.int .u8 0, .slice none 0 0] 35)).heap.size ((w.alloc (.cells #[.int .u8 (sgI s), .slice (some ⟨g, 0, none⟩) 2 2] 35)).alloc (.cells #[.int .u8 0, .slice none 0 0] 35)) w1 →
        w1.cell? ⟨w.heap.size + 1, 0, none⟩ = some (.int .u8 0) ∧ w1.cell? ⟨w.heap.size + 1, 1, none⟩ = some (.slice none 0 0) ∧ w1.frozen? ⟨w.heap.size + 1, 0, none⟩ = false ∧ w1.frozen? ⟨w.heap.size + 1, 1, none⟩ = false ∧ w.heap.size + 1 < w1.heap.size) := Lib.hid (fun w1 b1 =>
      ⟨(b1.cell (p := ⟨w.heap.size + 1, 0, none⟩) (by simp)).trans (by simp [go_sem]), (b1.cell (p := ⟨w.heap.size + 1, 1, none⟩) (by simp)).trans (by simp [go_sem]), (b1.frozen (p := ⟨w.heap.size + 1, 0, none⟩) (by simp)).trans (by simp [go_sem]), (b1.frozen (p := ⟨w.heap.size + 1, 1, none⟩) (by simp)).trans (by simp [go_sem]), Nat.lt_of_lt_of_le (by simp) b1.size⟩)
    have HTd : Hid (STd w ((Tm.par s a b).td o) = STd w (.par (s != o) (a.td o) (b.td o))) := Lib.hid rfl
    clear ha hb hB
    rcases Bool.eq_false_or_eq_true s with rfl | rfl <;> rcases Bool.eq_false_or_eq_true o with rfl | rfl
    · simp only [sgI_true] at HS HZ bW ⊢
      rw [HTd.out]
      clear HTd
      have BW := Lib.hid bW
      have gs : ¬ w.heap.size + 1 = g := by omega
      have gs2 : ¬ g = w.heap.size + 1 := by omega
      clear bW h0 h1 h2 h3 gn
      go_enter Tryd.func31, Tryd.ntmps31
      go_wp2_with fail
      obtain ⟨Z, eZ⟩ : ∃ Z, Z = (w.alloc (Obj.cells #[.int .u8 42, .slice (some ⟨g, 0, none⟩) 2 2] 35)).alloc (.cells #[.int .u8 0, .slice none 0 0] 35) := ⟨_, rfl⟩
      rw [← eZ] at HS HZ BW ⊢
      clear eZ
      generalize hs : w.heap.size = s0 at HS HZ gs gs2 hg ⊢
      obtain ⟨q0, q1, q2, q3, q4, q5⟩ := HS.out Z (Below.refl _ _)
      have sZ : s0 + 1 < Z.heap.size := (HZ.out Z (Below.refl _ _)).2.2.2.2
      have gZ : g < Z.heap.size := by omega
      go_region_held (fun w' => w'.cell? ⟨s0, 0, none⟩ = some (.int .u8 42) ∧ w'.cell? ⟨s0, 1, none⟩ = some (.slice (some ⟨g, 0, none⟩) 2 2) ∧ w'.cell? ⟨g, 0, none⟩ = some (.int .u8 c1) ∧ w'.cell? ⟨g, 1, none⟩ = some (.slice A1 n1 k1) ∧ w'.cell? ⟨g, 2, none⟩ = some (.int .u8 c2) ∧ w'.cell? ⟨g, 3, none⟩ = some (.slice A2 n2 k2))
        (first | exact HS.out _ (Below.refl _ _).drew | exact HS.out _ (below_drew b1) | exact HS.out _ (bl_then (below_drew b1) b2) | (obtain ⟨r0, r1, r2, r3, r4, r5⟩ := HS.out _ (bl_then (below_drew b1) b2); exact ⟨(cell_past w2 (s0 + 1) s0 0 _ _ _ (by omega) (by omega)).trans r0, (cell_past w2 (s0 + 1) s0 1 _ _ _ (by omega) (by omega)).trans r1, (cell_past w2 (s0 + 1) g 0 _ _ _ (by omega) (by omega)).trans r2, (cell_past w2 (s0 + 1) g 1 _ _ _ (by omega) (by omega)).trans r3, (cell_past w2 (s0 + 1) g 2 _ _ _ (by omega) (by omega)).trans r4, (cell_past w2 (s0 + 1) g 3 _ _ _ (by omega) (by omega)).trans r5⟩) | go_keep)
        (first
          | (go_at_call_of 31 (Value.slice A1 n1 k1); refine (HA.out _ (BW.out.trans ((Below.refl _ _).drew.mono BW.out.size))).mono ?_; rintro e w1 ⟨c3, A3, n3, k3, rfl, t1, b1⟩)
          | (go_at_call_of 31 (Value.slice A2 n2 k2); refine (HB.out _ (bl_then BW.out (below_drew b1))).mono ?_; rintro e w2 ⟨c4, A4, n4, k4, rfl, t2, b2⟩; obtain ⟨z0, z1, f0, f1, zs⟩ := HZ.out _ (bl_then (below_drew b1) b2)))
      all_goals go_wp2
      all_goals refine ret_box1 rfl rfl rfl (load_term (s0 + 1) _ (.int .u8 43) (.slice (some ⟨w2.heap.size, 0, none⟩) 2 2) (by simp [go_sem, z0, zs]) (by simp [go_sem, z1, zs])) ?_
      all_goals
        have T1 := t1.low (B' := s0 + 2) (by simp; omega)
        have T2 := t2.low (B' := s0 + 2) (by have := b1.size; simp at this; omega)
        have hle : s0 ≤ w2.heap.size := by omega
        exact ⟨_, _, _, _, rfl, ⟨w2.heap.size, c3, A3, n3, k3, c4, A4, n4, k4, rfl, by omega, by simp, by simp [go_sem], by simp [go_sem], by simp [go_sem], by simp [go_sem], TmAt.low (by omega) (TmAt.alloc (TmAt.set (by omega) (TmAt.set (by omega) (T1.below b2)))), TmAt.low (by omega) (TmAt.alloc (TmAt.set (by omega) (TmAt.set (by omega) T2)))⟩, bl_alloc (bl_set (bl_set (bl_then BW.out (bl_then (below_drew b1) b2)) (by show w.heap.size ≤ s0 + 1; omega)) (by show w.heap.size ≤ s0 + 1; omega))⟩
    · simp only [sgI_true] at HS HZ bW ⊢
      rw [HTd.out]
      clear HTd
      have BW := Lib.hid bW
      have gs : ¬ w.heap.size + 1 = g := by omega
      have gs2 : ¬ g = w.heap.size + 1 := by omega
      clear bW h0 h1 h2 h3 gn
      go_enter Tryd.func31, Tryd.ntmps31
      go_wp2_with fail
      obtain ⟨Z, eZ⟩ : ∃ Z, Z = (w.alloc (Obj.cells #[.int .u8 42, .slice (some ⟨g, 0, none⟩) 2 2] 35)).alloc (.cells #[.int .u8 0, .slice none 0 0] 35) := ⟨_, rfl⟩
      rw [← eZ] at HS HZ BW ⊢
      clear eZ
      generalize hs : w.heap.size = s0 at HS HZ gs gs2 hg ⊢
      obtain ⟨q0, q1, q2, q3, q4, q5⟩ := HS.out Z (Below.refl _ _)
      have sZ : s0 + 1 < Z.heap.size := (HZ.out Z (Below.refl _ _)).2.2.2.2
      have gZ : g < Z.heap.size := by omega
      go_region_held (fun w' => w'.cell? ⟨s0, 0, none⟩ = some (.int .u8 42) ∧ w'.cell? ⟨s0, 1, none⟩ = some (.slice (some ⟨g, 0, none⟩) 2 2) ∧ w'.cell? ⟨g, 0, none⟩ = some (.int .u8 c1) ∧ w'.cell? ⟨g, 1, none⟩ = some (.slice A1 n1 k1) ∧ w'.cell? ⟨g, 2, none⟩ = some (.int .u8 c2) ∧ w'.cell? ⟨g, 3, none⟩ = some (.slice A2 n2 k2))
        (first | exact HS.out _ (Below.refl _ _).drew | exact HS.out _ (below_drew b1) | exact HS.out _ (bl_then (below_drew b1) b2) | (obtain ⟨r0, r1, r2, r3, r4, r5⟩ := HS.out _ (bl_then (below_drew b1) b2); exact ⟨(cell_past w2 (s0 + 1) s0 0 _ _ _ (by omega) (by omega)).trans r0, (cell_past w2 (s0 + 1) s0 1 _ _ _ (by omega) (by omega)).trans r1, (cell_past w2 (s0 + 1) g 0 _ _ _ (by omega) (by omega)).trans r2, (cell_past w2 (s0 + 1) g 1 _ _ _ (by omega) (by omega)).trans r3, (cell_past w2 (s0 + 1) g 2 _ _ _ (by omega) (by omega)).trans r4, (cell_past w2 (s0 + 1) g 3 _ _ _ (by omega) (by omega)).trans r5⟩) | go_keep)
        (first
          | (go_at_call_of 31 (Value.slice A1 n1 k1); refine (HA.out _ (BW.out.trans ((Below.refl _ _).drew.mono BW.out.size))).mono ?_; rintro e w1 ⟨c3, A3, n3, k3, rfl, t1, b1⟩)
          | (go_at_call_of 31 (Value.slice A2 n2 k2); refine (HB.out _ (bl_then BW.out (below_drew b1))).mono ?_; rintro e w2 ⟨c4, A4, n4, k4, rfl, t2, b2⟩; obtain ⟨z0, z1, f0, f1, zs⟩ := HZ.out _ (bl_then (below_drew b1) b2)))
      all_goals go_wp2
      all_goals refine ret_box1 rfl rfl rfl (load_term (s0 + 1) _ (.int .u8 42) (.slice (some ⟨w2.heap.size, 0, none⟩) 2 2) (by simp [go_sem, z0, zs]) (by simp [go_sem, z1, zs])) ?_
      all_goals
        have T1 := t1.low (B' := s0 + 2) (by simp; omega)
        have T2 := t2.low (B' := s0 + 2) (by have := b1.size; simp at this; omega)
        have hle : s0 ≤ w2.heap.size := by omega
        exact ⟨_, _, _, _, rfl, ⟨w2.heap.size, c3, A3, n3, k3, c4, A4, n4, k4, rfl, by omega, by simp, by simp [go_sem], by simp [go_sem], by simp [go_sem], by simp [go_sem], TmAt.low (by omega) (TmAt.alloc (TmAt.set (by omega) (TmAt.set (by omega) (T1.below b2)))), TmAt.low (by omega) (TmAt.alloc (TmAt.set (by omega) (TmAt.set (by omega) T2)))⟩, bl_alloc (bl_set (bl_set (bl_then BW.out (bl_then (below_drew b1) b2)) (by show w.heap.size ≤ s0 + 1; omega)) (by show w.heap.size ≤ s0 + 1; omega))⟩
    · simp only [sgI_false] at HS HZ bW ⊢
      rw [HTd.out]
      clear HTd
      have BW := Lib.hid bW
      have gs : ¬ w.heap.size + 1 = g := by omega
      have gs2 : ¬ g = w.heap.size + 1 := by omega
      clear bW h0 h1 h2 h3 gn
      go_enter Tryd.func31, Tryd.ntmps31
      go_wp2_with fail
      obtain ⟨Z, eZ⟩ : ∃ Z, Z = (w.alloc (Obj.cells #[.int .u8 43, .slice (some ⟨g, 0, none⟩) 2 2] 35)).alloc (.cells #[.int .u8 0, .slice none 0 0] 35) := ⟨_, rfl⟩
      rw [← eZ] at HS HZ BW ⊢
      clear eZ
      generalize hs : w.heap.size = s0 at HS HZ gs gs2 hg ⊢
      obtain ⟨q0, q1, q2, q3, q4, q5⟩ := HS.out Z (Below.refl _ _)
      have sZ : s0 + 1 < Z.heap.size := (HZ.out Z (Below.refl _ _)).2.2.2.2
      have gZ : g < Z.heap.size := by omega
      go_region_held (fun w' => w'.cell? ⟨s0, 0, none⟩ = some (.int .u8 43) ∧ w'.cell? ⟨s0, 1, none⟩ = some (.slice (some ⟨g, 0, none⟩) 2 2) ∧ w'.cell? ⟨g, 0, none⟩ = some (.int .u8 c1) ∧ w'.cell? ⟨g, 1, none⟩ = some (.slice A1 n1 k1) ∧ w'.cell? ⟨g, 2, none⟩ = some (.int .u8 c2) ∧ w'.cell? ⟨g, 3, none⟩ = some (.slice A2 n2 k2))
        (first | exact HS.out _ (Below.refl _ _).drew | exact HS.out _ (below_drew b1) | exact HS.out _ (bl_then (below_drew b1) b2) | (obtain ⟨r0, r1, r2, r3, r4, r5⟩ := HS.out _ (bl_then (below_drew b1) b2); exact ⟨(cell_past w2 (s0 + 1) s0 0 _ _ _ (by omega) (by omega)).trans r0, (cell_past w2 (s0 + 1) s0 1 _ _ _ (by omega) (by omega)).trans r1, (cell_past w2 (s0 + 1) g 0 _ _ _ (by omega) (by omega)).trans r2, (cell_past w2 (s0 + 1) g 1 _ _ _ (by omega) (by omega)).trans r3, (cell_past w2 (s0 + 1) g 2 _ _ _ (by omega) (by omega)).trans r4, (cell_past w2 (s0 + 1) g 3 _ _ _ (by omega) (by omega)).trans r5⟩) | go_keep)
        (first
          | (go_at_call_of 31 (Value.slice A1 n1 k1); refine (HA.out _ (BW.out.trans ((Below.refl _ _).drew.mono BW.out.size))).mono ?_; rintro e w1 ⟨c3, A3, n3, k3, rfl, t1, b1⟩)
          | (go_at_call_of 31 (Value.slice A2 n2 k2); refine (HB.out _ (bl_then BW.out (below_drew b1))).mono ?_; rintro e w2 ⟨c4, A4, n4, k4, rfl, t2, b2⟩; obtain ⟨z0, z1, f0, f1, zs⟩ := HZ.out _ (bl_then (below_drew b1) b2)))
      all_goals go_wp2
      all_goals refine ret_box1 rfl rfl rfl (load_term (s0 + 1) _ (.int .u8 42) (.slice (some ⟨w2.heap.size, 0, none⟩) 2 2) (by simp [go_sem, z0, zs]) (by simp [go_sem, z1, zs])) ?_
      all_goals
        have T1 := t1.low (B' := s0 + 2) (by simp; omega)
        have T2 := t2.low (B' := s0 + 2) (by have := b1.size; simp at this; omega)
        have hle : s0 ≤ w2.heap.size := by omega
        exact ⟨_, _, _, _, rfl, ⟨w2.heap.size, c3, A3, n3, k3, c4, A4, n4, k4, rfl, by omega, by simp, by simp [go_sem], by simp [go_sem], by simp [go_sem], by simp [go_sem], TmAt.low (by omega) (TmAt.alloc (TmAt.set (by omega) (TmAt.set (by omega) (T1.below b2)))), TmAt.low (by omega) (TmAt.alloc (TmAt.set (by omega) (TmAt.set (by omega) T2)))⟩, bl_alloc (bl_set (bl_set (bl_then BW.out (bl_then (below_drew b1) b2)) (by show w.heap.size ≤ s0 + 1; omega)) (by show w.heap.size ≤ s0 + 1; omega))⟩
    · simp only [sgI_false] at HS HZ bW ⊢
      rw [HTd.out]
      clear HTd
      have BW := Lib.hid bW
      have gs : ¬ w.heap.size + 1 = g := by omega
      have gs2 : ¬ g = w.heap.size + 1 := by omega
      clear bW h0 h1 h2 h3 gn
      go_enter Tryd.func31, Tryd.ntmps31
      go_wp2_with fail
      obtain ⟨Z, eZ⟩ : ∃ Z, Z = (w.alloc (Obj.cells #[.int .u8 43, .slice (some ⟨g, 0, none⟩) 2 2] 35)).alloc (.cells #[.int .u8 0, .slice none 0 0] 35) := ⟨_, rfl⟩
      rw [← eZ] at HS HZ BW ⊢
      clear eZ
      generalize hs : w.heap.size = s0 at HS HZ gs gs2 hg ⊢
      obtain ⟨q0, q1, q2, q3, q4, q5⟩ := HS.out Z (Below.refl _ _)
      have sZ : s0 + 1 < Z.heap.size := (HZ.out Z (Below.refl _ _)).2.2.2.2
      have gZ : g < Z.heap.size := by omega
      go_region_held (fun w' => w'.cell? ⟨s0, 0, none⟩ = some (.int .u8 43) ∧ w'.cell? ⟨s0, 1, none⟩ = some (.slice (some ⟨g, 0, none⟩) 2 2) ∧ w'.cell? ⟨g, 0, none⟩ = some (.int .u8 c1) ∧ w'.cell? ⟨g, 1, none⟩ = some (.slice A1 n1 k1) ∧ w'.cell? ⟨g, 2, none⟩ = some (.int .u8 c2) ∧ w'.cell? ⟨g, 3, none⟩ = some (.slice A2 n2 k2))
        (first | exact HS.out _ (Below.refl _ _).drew | exact HS.out _ (below_drew b1) | exact HS.out _ (bl_then (below_drew b1) b2) | (obtain ⟨r0, r1, r2, r3, r4, r5⟩ := HS.out _ (bl_then (below_drew b1) b2); exact ⟨(cell_past w2 (s0 + 1) s0 0 _ _ _ (by omega) (by omega)).trans r0, (cell_past w2 (s0 + 1) s0 1 _ _ _ (by omega) (by omega)).trans r1, (cell_past w2 (s0 + 1) g 0 _ _ _ (by omega) (by omega)).trans r2, (cell_past w2 (s0 + 1) g 1 _ _ _ (by omega) (by omega)).trans r3, (cell_past w2 (s0 + 1) g 2 _ _ _ (by omega) (by omega)).trans r4, (cell_past w2 (s0 + 1) g 3 _ _ _ (by omega) (by omega)).trans r5⟩) | go_keep)
        (first
          | (go_at_call_of 31 (Value.slice A1 n1 k1); refine (HA.out _ (BW.out.trans ((Below.refl _ _).drew.mono BW.out.size))).mono ?_; rintro e w1 ⟨c3, A3, n3, k3, rfl, t1, b1⟩)
          | (go_at_call_of 31 (Value.slice A2 n2 k2); refine (HB.out _ (bl_then BW.out (below_drew b1))).mono ?_; rintro e w2 ⟨c4, A4, n4, k4, rfl, t2, b2⟩; obtain ⟨z0, z1, f0, f1, zs⟩ := HZ.out _ (bl_then (below_drew b1) b2)))
      all_goals go_wp2
      all_goals refine ret_box1 rfl rfl rfl (load_term (s0 + 1) _ (.int .u8 43) (.slice (some ⟨w2.heap.size, 0, none⟩) 2 2) (by simp [go_sem, z0, zs]) (by simp [go_sem, z1, zs])) ?_
      all_goals
        have T1 := t1.low (B' := s0 + 2) (by simp; omega)
        have T2 := t2.low (B' := s0 + 2) (by have := b1.size; simp at this; omega)
        have hle : s0 ≤ w2.heap.size := by omega
        exact ⟨_, _, _, _, rfl, ⟨w2.heap.size, c3, A3, n3, k3, c4, A4, n4, k4, rfl, by omega, by simp, by simp [go_sem], by simp [go_sem], by simp [go_sem], by simp [go_sem], TmAt.low (by omega) (TmAt.alloc (TmAt.set (by omega) (TmAt.set (by omega) (T1.below b2)))), TmAt.low (by omega) (TmAt.alloc (TmAt.set (by omega) (TmAt.set (by omega) T2)))⟩, bl_alloc (bl_set (bl_set (bl_then BW.out (bl_then (below_drew b1) b2)) (by show w.heap.size ≤ s0 + 1; omega)) (by show w.heap.size ≤ s0 + 1; omega))⟩

end Go.Proofs.YtkninejoliclcaaDoor
