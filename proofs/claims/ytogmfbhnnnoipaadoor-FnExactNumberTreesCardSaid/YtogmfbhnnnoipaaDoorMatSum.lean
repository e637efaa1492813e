/- The sum of all numbers of a matrix, and its trace, by the program. -/
import Derived.Test.YtogmfbhnnnoipaaDoorMat
import Derived.Test.YtogmfbhnnnoipaaDoorBaseA
namespace Go.Proofs.YtogmfbhnnnoipaaDoor
open Go Go.RowKit
set_option linter.unusedVariables false
set_option maxRecDepth 100000

def NumI (w : World) (x : Int) (e : Ending) (w' : World) : Prop := e = .returned (.int .i64 x) ∧ Below w.heap.size w w'

set_option maxHeartbeats 2000000 in
theorem trace_any (m : Mx) (w : World) :
    Calls Tryd.prog 46 #[.agg (matC (wmx m))] w (NumI w (wrap64 (mtr m))) := by
  obtain ⟨p, ep⟩ : ∃ p, p = wmx m := ⟨_, rfl⟩
  rw [← ep]
  have EP := Lib.hid ep
  have M0 := MatAt.new w p
  have HM := Lib.hid M0
  have B0 := Lib.hid ((Below.refl w.heap.size w).alloc (Nat.le_refl _) (.cells (matC p) 45))
  clear M0 ep
  go_enter Tryd.func46, Tryd.ntmps46
  go_wp2_with (refine step_load_mat rfl (.tmp 1) rfl _ _ rfl HM.out ?_)
  go_loopw [3, 7] (fun s i wr => ∃ k : Nat, k ≤ 6 ∧ i = .int .i64 k ∧ s = .int .i64 (wrap64 (sumTo (fun v => m v v) k)) ∧ Hid (Below w.heap.size w wr)) (fun _ i _ => 6 - (intOf i).toNat)
  case atStart => exact ⟨0, Nat.zero_le _, rfl, by simp [sumTo, wrap64], B0⟩
  case round =>
    obtain ⟨k, hk, rfl, rfl, hb⟩ := hrel
    by_cases hlt : k < 6
    · have hix := index_mat p k hlt
      have hpk : p k k = wrap64 (m k k) := by rw [EP.out]; rfl
      obtain ⟨t, et⟩ : ∃ t, t = sumTo (fun v => m v v) k := ⟨_, rfl⟩
      have hsum : wrap64 (wrap64 t + p k k) = wrap64 (sumTo (fun v => m v v) (k + 1)) := by rw [hpk, wrap_addL, wrap_addR, et]; rfl
      rw [← et]
      have HS := Lib.hid hsum
      have hi : (0 : Int) ≤ (k : Int) ∧ (k : Int) < 6 := by omega
      have R0 := Lib.hid (RowAt.new wr (fun _ => 0))
      have R1 := Lib.hid (RowAt.stored (p k) R0.out)
      have B1 := Lib.hid (below_setRow (hb.out.alloc hb.out.size (.cells (rowC fun _ => 0) 43)) hb.out.size (rowC (p k)))
      have hc := R1.out.cell hlt
      have had := addr_row wr.heap.size 0 k hlt
      rw [Nat.zero_add] at had
      clear hpk hsum et
      go_wp2_with (first | refine step_alloc_row rfl rfl ?_ | refine step_store_row rfl (.tmp 5) (.tmp 10) rfl _ _ _ rfl rfl R0.out ?_)
      go_roundw
      case rel => exact ⟨k + 1, by omega, by go_num, by rw [HS.out], B1⟩
      case measure => simp [intOf]; omega
    · have hk6 : k = 6 := by omega
      subst hk6
      go_wp2
      go_ret
      exact ⟨rfl, hb.out⟩

set_option maxHeartbeats 2000000 in
theorem sum_any (m : Mx) (w : World) :
    Calls Tryd.prog 44 #[.agg (matC (wmx m))] w (NumI w (wrap64 (msum m))) := by
  obtain ⟨p, ep⟩ : ∃ p, p = wmx m := ⟨_, rfl⟩
  rw [← ep]
  have EP := Lib.hid ep
  have M0 := MatAt.new w p
  have HM := Lib.hid M0
  have B0 := Lib.hid ((Below.refl w.heap.size w).alloc (Nat.le_refl _) (.cells (matC p) 45))
  clear M0 ep
  go_enter Tryd.func44, Tryd.ntmps44
  go_wp2_with (refine step_load_mat rfl (.tmp 1) rfl _ _ rfl HM.out ?_)
  go_loopw [3, 9] (fun s i wr => ∃ k : Nat, k ≤ 6 ∧ i = .int .i64 k ∧ s = .int .i64 (wrap64 (sumTo (fun v => sumTo (fun u => m v u) 6) k)) ∧ Hid (Below w.heap.size w wr)) (fun _ i _ => 6 - (intOf i).toNat)
  case atStart => exact ⟨0, Nat.zero_le _, rfl, by simp [sumTo, wrap64], B0⟩
  case round =>
    obtain ⟨k, hk, rfl, rfl, hb⟩ := hrel
    by_cases hlt : k < 6
    · have hix := index_mat p k hlt
      obtain ⟨t, et⟩ : ∃ t, t = sumTo (fun v => sumTo (fun u => m v u) 6) k := ⟨_, rfl⟩
      have hend : sumTo (fun v => sumTo (fun u => m v u) 6) (k + 1) = t + sumTo (fun u => m k u) 6 := by rw [et]; rfl
      rw [← et]
      have HS := Lib.hid hend
      have hi : (0 : Int) ≤ (k : Int) ∧ (k : Int) < 6 := by omega
      have R0 := Lib.hid (RowAt.new wr (fun _ => 0))
      have R1 := Lib.hid (RowAt.stored (p k) R0.out)
      have B1 := Lib.hid (below_setRow (hb.out.alloc hb.out.size (.cells (rowC fun _ => 0) 43)) hb.out.size (rowC (p k)))
      clear hend et
      go_wp2_with (first | refine step_alloc_row rfl rfl ?_ | refine step_store_row rfl (.tmp 5) (.tmp 11) rfl _ _ _ rfl rfl R0.out ?_ | refine step_load_row rfl (.tmp 5) rfl _ _ rfl R1.out ?_)
      obtain ⟨wo, ewo⟩ : ∃ wo : World, wo = (wr.alloc (Obj.cells (rowC fun _ => 0) 43)).setRow wr.heap.size (rowC (p k)) := ⟨_, rfl⟩
      rw [← ewo] at B1 ⊢
      clear ewo
      go_loopw [3, 13] (fun s i wq => ∃ j : Nat, j ≤ 6 ∧ i = .int .i64 j ∧ s = .int .i64 (wrap64 (t + sumTo (fun u => m k u) j)) ∧ wq = wo) (fun _ i _ => 6 - (intOf i).toNat)
      case atStart => exact ⟨0, Nat.zero_le _, rfl, by simp [sumTo], rfl⟩
      case round =>
        obtain ⟨j, hj, rfl, rfl, rfl⟩ := hrel
        by_cases hlj : j < 6
        · have hix2 := index_row (p k) j hlj
          have hpk : p k j = wrap64 (m k j) := by rw [EP.out]; rfl
          obtain ⟨q, eq⟩ : ∃ q, q = t + sumTo (fun u => m k u) j := ⟨_, rfl⟩
          have hsum : wrap64 (wrap64 q + p k j) = wrap64 (t + sumTo (fun u => m k u) (j + 1)) := by
            rw [hpk, wrap_addL, wrap_addR, eq, Int.add_assoc]; rfl
          rw [← eq]
          have HS2 := Lib.hid hsum
          have hi2 : (0 : Int) ≤ (j : Int) ∧ (j : Int) < 6 := by omega
          clear hsum hpk eq
          go_wp2
          go_roundw
          case rel => exact ⟨j + 1, by omega, by go_num, by rw [HS2.out], trivial⟩
          case measure => simp [intOf]; omega
        · have hj6 : j = 6 := by omega
          subst hj6
          go_wp2
          go_roundw
          case rel => exact ⟨k + 1, by omega, by go_num, by rw [HS.out], B1⟩
          case measure => simp [intOf]; omega
    · have hk6 : k = 6 := by omega
      subst hk6
      go_wp2
      go_ret
      exact ⟨rfl, hb.out⟩
end Go.Proofs.YtogmfbhnnnoipaaDoor
