/- The product of two matrices, by the program. -/
import Derived.Test.YtogmfbhnnnoipaaDoorMat
import Derived.Test.YtogmfbhnnnoipaaDoorBaseA
namespace Go.Proofs.YtogmfbhnnnoipaaDoor
open Go Go.RowKit
set_option linter.unusedVariables false
set_option maxRecDepth 100000

/-- Between two rounds: the second matrix, the empty result, the product so far. -/
def TRel (w wr : World) (g : Nat) (q r : Mx) : Prop := MatAt wr (g + 1) q ∧ MatAt wr (g + 1 + 1) (fun _ _ => 0) ∧ MatAt wr (g + 1 + 1 + 1) r ∧ Below g w wr
theorem TRel.congr {w wr : World} {g : Nat} {q r s : Mx} (h : TRel w wr g q r) (e : MEq r s) : TRel w wr g q s := ⟨h.1, h.2.1, h.2.2.1.congr e, h.2.2.2⟩
theorem TRel.row {w wr : World} {g : Nat} {q r : Mx} (h : TRel w wr g q r) (z p : Nat → Int) : TRel w ((wr.alloc (.cells (rowC z) 43)).setRow wr.heap.size (rowC p)) g q r := by
  have l1 := h.1.lt
  have l2 := h.2.1.lt
  have l3 := h.2.2.1.lt
  exact ⟨(h.1.alloc _).setRow _ (by omega), (h.2.1.alloc _).setRow _ (by omega), (h.2.2.1.alloc _).setRow _ (by omega), below_setRow (h.2.2.2.alloc (by omega) _) (by omega) _⟩
theorem TRel.set {w wr : World} {g : Nat} {q r : Mx} (h : TRel w wr g q r) {i j : Nat} (hi : i < 6) (hj : j < 6) (x : Int) : TRel w (wr.setCell ⟨g + 1 + 1 + 1, i * 6 + j, none⟩ (.int .i64 x)) g q (mset r i j x) :=
  ⟨h.1.other _ (by show g + 1 ≠ g + 1 + 1 + 1; omega), h.2.1.other _ (by show g + 1 + 1 ≠ g + 1 + 1 + 1; omega), h.2.2.1.set x hi hj, h.2.2.2.setCell (p := ⟨g + 1 + 1 + 1, i * 6 + j, none⟩) (by show g ≤ g + 1 + 1 + 1; omega) _⟩
theorem TRel.drewN {w wr : World} {g : Nat} {q r : Mx} (h : TRel w wr g q r) (d : Nat) : TRel w (wr.drewN d) g q r := ⟨h.1, h.2.1, h.2.2.1, below_drewN h.2.2.2 d⟩
def Mat1 (w : World) (m : Mx) (e : Ending) (w' : World) : Prop := e = .returned (.agg (matC m)) ∧ Below w.heap.size w w'

set_option maxHeartbeats 4000000 in
theorem times_any (m n : Mx) (w : World) :
    Calls Tryd.prog 127 #[.agg (matC (wmx m)), .agg (matC (wmx n))] w (Mat1 w (wmx (mmul m n))) := by
  obtain ⟨p, ep⟩ : ∃ p, p = wmx m := ⟨_, rfl⟩
  obtain ⟨q, eq⟩ : ∃ q, q = wmx n := ⟨_, rfl⟩
  rw [← ep, ← eq]
  have EP := Lib.hid ep
  have EQ := Lib.hid eq
  have T0 : ∀ W, W = (((w.alloc (.cells (matC p) 45)).alloc (.cells (matC q) 45)).alloc (.cells (matC fun _ _ => 0) 45)).alloc (.cells (matC fun _ _ => 0) 45) → TRel w W w.heap.size q (wmx (mpart m n 0 0 0)) ∧ MatAt W w.heap.size p := fun W e => by
    rw [e]
    have h0 := MatAt.new w p
    have h1 := MatAt.new (w.alloc (.cells (matC p) 45)) q
    have h2 := MatAt.new ((w.alloc (.cells (matC p) 45)).alloc (.cells (matC q) 45)) (fun _ _ => 0)
    have h3 := MatAt.new (((w.alloc (.cells (matC p) 45)).alloc (.cells (matC q) 45)).alloc (.cells (matC fun _ _ => 0) 45)) (fun _ _ => 0)
    simp only [World.size_alloc] at h1 h2 h3 h0
    have hz : wmx (mpart m n 0 0 0) = fun _ _ => 0 := by rw [mpart_start]; funext i j; simp [wmx, wrap64]
    rw [hz]
    refine ⟨⟨(h1.alloc _).alloc _, h2.alloc _, h3, ?_⟩, ((h0.alloc _).alloc _).alloc _⟩
    exact ((((Below.refl _ w).alloc (Nat.le_refl _) _).alloc (by rw [World.size_alloc]; omega) _).alloc (by simp only [World.size_alloc]; omega) _).alloc (by simp only [World.size_alloc]; omega) _
  have HT0 := Lib.hid T0
  clear ep eq T0
  go_enter Tryd.func127, Tryd.ntmps127
  go_wp2_with (first | refine step_alloc_mat rfl rfl ?_ | refine step_load_mat rfl (.tmp 2) rfl _ _ rfl (HT0.out _ rfl).2 ?_)
  refine at_world (P := fun W => Code.wp _ _ _ _ W) _ ?_
  intro W hW
  have T1 := Lib.hid (HT0.out W hW).1
  clear hW HT0
  obtain ⟨g, eg⟩ : ∃ g, g = w.heap.size := ⟨_, rfl⟩
  rw [← eg] at T1 ⊢
  have HG := Lib.hid eg
  clear eg
  go_loopw [13] (fun i wr' => ∃ v : Nat, v ≤ 6 ∧ i = .int .i64 v ∧ Hid (TRel w wr' g q (wmx (mpart m n v 0 0)))) (fun i _ => 6 - (intOf i).toNat)
  case atStart => exact ⟨0, Nat.zero_le _, rfl, T1⟩
  case round =>
    obtain ⟨v, hv, rfl, hr⟩ := hrel
    by_cases hlt : v < 6
    · have hix := index_mat p v hlt
      have hi : (0 : Int) ≤ (v : Int) ∧ (v : Int) < 6 := by omega
      have R0 := Lib.hid (RowAt.new wr (fun _ => 0))
      have R1 := Lib.hid (RowAt.stored (p v) R0.out)
      have T2 := Lib.hid (hr.out.row (fun _ => 0) (p v))
      go_wp2_with (first | refine step_alloc_row rfl rfl ?_ | refine step_store_row rfl (.tmp 7) (.tmp 16) rfl _ _ _ rfl rfl R0.out ?_ | refine step_load_row rfl (.tmp 7) rfl _ _ rfl R1.out ?_)
      obtain ⟨wo, ewo⟩ : ∃ wo : World, wo = (wr.alloc (Obj.cells (rowC fun _ => 0) 43)).setRow wr.heap.size (rowC (p v)) := ⟨_, rfl⟩
      rw [← ewo] at T2 ⊢
      clear ewo R0 R1 hr hix
      go_loopw [18] (fun i wr' => ∃ b : Nat, b ≤ 6 ∧ i = .int .i64 b ∧ Hid (TRel w wr' g q (wmx (mpart m n v b 0)))) (fun i _ => 6 - (intOf i).toNat)
      case atStart => exact ⟨0, Nat.zero_le _, rfl, T2⟩
      case round =>
        obtain ⟨b, hb, rfl, hr⟩ := hrel
        by_cases hlb : b < 6
        · have hix := index_row (p v) b hlb
          have had := addr_mat (g + 1) b hlb
          have hib : (0 : Int) ≤ (b : Int) ∧ (b : Int) < 6 := by omega
          go_wp2_with (refine step_load_matrow rfl (.tmp 23) rfl _ _ hlb _ rfl hr.out.1 ?_)
          obtain ⟨wo, rfl⟩ : ∃ wo : World, wo = wr := ⟨_, rfl⟩
          go_loopw [25] (fun i wr' => ∃ x : Nat, x ≤ 6 ∧ i = .int .i64 x ∧ Hid (TRel w wr' g q (wmx (mpart m n v b x)))) (fun i _ => 6 - (intOf i).toNat)
          case atStart => exact ⟨0, Nat.zero_le _, rfl, hr⟩
          case round =>
            obtain ⟨x, hx, rfl, hr⟩ := hrel
            by_cases hlx : x < 6
            · have hix2 := index_row (q b) x hlx
              have had3 := addr_mat (g + 1 + 1 + 1) v hlt
              have had4 := addr_row (g + 1 + 1 + 1) (v * 6) x hlx
              have hq : q b x = wrap64 (n b x) := by rw [EQ.out]; rfl
              have hp : p v b = wrap64 (m v b) := by rw [EP.out]; rfl
              have hc := hr.out.2.2.1.cell hlt hlx
              have hf := hr.out.2.2.1.frozen (v * 6 + x)
              have hst := wrap_step (mpart m n v b x v x) (m v b) (n b x)
              rw [← hp, ← hq] at hst
              have hc2 : wmx (mpart m n v b x) v x = wrap64 (mpart m n v b x v x) := rfl
              rw [← hc2] at hst
              obtain ⟨z, ez⟩ : ∃ z, z = wrap64 (mpart m n v b x v x + m v b * n b x) := ⟨_, rfl⟩
              rw [← ez] at hst
              have T3 := hr.out.set hlt hlx z
              have hstep := mpart_step m n v b x hlt hlx
              rw [← ez] at hstep
              have T4 := Lib.hid (T3.congr hstep)
              obtain ⟨y, ey⟩ : ∃ y, y = wmx (mpart m n v b x) v x := ⟨_, rfl⟩
              rw [← ey] at hst hc
              have hix3 : (0 : Int) ≤ (x : Int) ∧ (x : Int) < 6 := by omega
              clear hq hp hc2 ez T3 hstep ey
              go_wp2
              go_still_tail 11, (by kernel_rfl)
              have hcd : wr.drew.cell? ⟨g + 1 + 1 + 1, v * 6 + x, none⟩ = some (.int .i64 y) := hc
              have hfd : wr.drew.frozen? ⟨g + 1 + 1 + 1, v * 6 + x, none⟩ = false := hf
              change wpList _ _ _ _ _ wr.drew
              go_wp2
              go_roundw
              case rel => exact ⟨x + 1, by omega, by go_num, Lib.hid ((T4.out.drewN 1))⟩
              case measure => simp [intOf]; omega
            · have hx6 : x = 6 := by omega
              subst hx6
              have hr2 := Lib.hid (TRel.congr hr.out (fun i j hi hj => by unfold wmx; rw [mpart_row m n v b i j hi hj] : MEq (wmx (mpart m n v b 6)) (wmx (mpart m n v (b + 1) 0))))
              go_wp2
              go_roundw
              case rel => exact ⟨b + 1, by omega, by go_num, hr2⟩
              case measure => simp [intOf]; omega
        · have hb6 : b = 6 := by omega
          subst hb6
          have hr2 := Lib.hid (TRel.congr hr.out (fun i j hi hj => by unfold wmx; rw [mpart_next m n v i j hi hj] : MEq (wmx (mpart m n v 6 0)) (wmx (mpart m n (v + 1) 0 0))))
          go_wp2
          go_roundw
          case rel => exact ⟨v + 1, by omega, by go_num, hr2⟩
          case measure => simp [intOf]; omega
    · have hv6 : v = 6 := by omega
      subst hv6
      have hr2 := Lib.hid (TRel.congr hr.out (fun i j hi hj => by unfold wmx; rw [mpart_end m n i j hi hj] : MEq (wmx (mpart m n 6 0 0)) (wmx (mmul m n))))
      go_wp2_with (first | refine step_load_mat rfl (.tmp 5) rfl _ _ rfl hr2.out.2.2.1 ?_ | refine step_store_mat rfl (.tmp 4) (.tmp 43) rfl _ _ _ rfl rfl hr2.out.2.1 ?_)
      have h2 := hr2.out.2.1.stored (wmx (mmul m n))
      refine bodyPost_ret (results_cell_row rfl _ _ _ _ _ _ _ rfl h2 mat_desc rfl (by rw [matC_size]; exact mat_info)) rfl ?_
      refine ⟨rfl, ?_⟩
      rw [← HG.out]
      exact below_setRow hr2.out.2.2.2 (by omega) _
end Go.Proofs.YtogmfbhnnnoipaaDoor
