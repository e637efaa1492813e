/- The powers of a matrix, by the program. -/
import Derived.Test.YtogmfbhnnnoipaaDoorTimes
namespace Go.Proofs.YtogmfbhnnnoipaaDoor
open Go Go.RowKit
set_option linter.unusedVariables false
set_option maxRecDepth 100000

/-- Between two rounds: the matrix, the empty result, the power so far. -/
def PRel (w wr : World) (g : Nat) (q r : Mx) : Prop := MatAt wr g q ∧ MatAt wr (g + 1) (fun _ _ => 0) ∧ MatAt wr (g + 1 + 1) r ∧ Below g w wr
theorem PRel.congr {w wr : World} {g : Nat} {q r s : Mx} (h : PRel w wr g q r) (e : MEq r s) : PRel w wr g q s := ⟨h.1, h.2.1, h.2.2.1.congr e, h.2.2.2⟩
theorem PRel.set {w wr : World} {g : Nat} {q r : Mx} (h : PRel w wr g q r) {i j : Nat} (hi : i < 6) (hj : j < 6) (x : Int) : PRel w (wr.setCell ⟨g + 1 + 1, i * 6 + j, none⟩ (.int .i64 x)) g q (mset r i j x) :=
  ⟨h.1.other _ (by show g ≠ g + 1 + 1; omega), h.2.1.other _ (by show g + 1 ≠ g + 1 + 1; omega), h.2.2.1.set x hi hj, h.2.2.2.setCell (p := ⟨g + 1 + 1, i * 6 + j, none⟩) (by show g ≤ g + 1 + 1; omega) _⟩
theorem PRel.stored {w wr wr' : World} {g : Nat} {q r : Mx} (h : PRel w wr g q r) (hb : Below wr.heap.size wr wr') (s : Mx) : PRel w (wr'.setRow (g + 1 + 1) (matC s)) g q s := by
  have l1 := h.1.lt
  have l2 := h.2.1.lt
  have l3 := h.2.2.1.lt
  exact ⟨(h.1.below hb l1).setRow _ (by omega), (h.2.1.below hb l2).setRow _ (by omega), (h.2.2.1.below hb l3).stored s, below_setRow (h.2.2.2.trans (hb.mono (by omega))) (by omega) _⟩
theorem mone_zero : wmx (mone 0) = fun _ _ => 0 := by funext i j; unfold wmx mone; rw [if_neg (by omega)]; simp [wrap64]
theorem mone_step (v : Nat) : MEq (mset (wmx (mone v)) v v 1) (wmx (mone (v + 1))) := fun i j hi hj => by
  unfold mset wmx mone
  by_cases h : i = v ∧ j = v
  · rw [if_pos h, if_pos (by omega)]; simp [wrap64]
  · rw [if_neg h]
    congr 1
    by_cases h2 : i = j ∧ i < v
    · rw [if_pos h2, if_pos (by omega)]
    · rw [if_neg h2, if_neg (by omega)]

set_option maxHeartbeats 4000000 in
theorem power_any (m : Mx) (n k : Nat) (hn : n ≤ 6) (hk : k ≤ 1000) (w : World) :
    Calls Tryd.prog 106 #[.agg (matC (wmx m)), .int .i64 n, .int .i64 k] w (Mat1 w (wmx (mpow m n k))) := by
  obtain ⟨q, eq⟩ : ∃ q, q = wmx m := ⟨_, rfl⟩
  have HTI := Lib.hid (fun (r : Mx) w => times_any r m w)
  rw [← eq] at HTI ⊢
  have EQ := Lib.hid eq
  have T0 : ∀ W, W = ((w.alloc (.cells (matC q) 45)).alloc (.cells (matC fun _ _ => 0) 45)).alloc (.cells (matC fun _ _ => 0) 45) → PRel w W w.heap.size q (wmx (mone 0)) := fun W e => by
    rw [e]
    have h0 := MatAt.new w q
    have h1 := MatAt.new (w.alloc (.cells (matC q) 45)) (fun _ _ => 0)
    have h2 := MatAt.new ((w.alloc (.cells (matC q) 45)).alloc (.cells (matC fun _ _ => 0) 45)) (fun _ _ => 0)
    simp only [World.size_alloc] at h0 h1 h2
    rw [mone_zero]
    refine ⟨(h0.alloc _).alloc _, h1.alloc _, h2, ?_⟩
    exact (((Below.refl _ w).alloc (Nat.le_refl _) _).alloc (by rw [World.size_alloc]; omega) _).alloc (by simp only [World.size_alloc]; omega) _
  have HT0 := Lib.hid T0
  clear eq T0
  go_enter Tryd.func106, Tryd.ntmps106
  go_wp2_with (refine step_alloc_mat rfl rfl ?_)
  refine at_world (P := fun W => Code.wp _ _ _ _ W) _ ?_
  intro W hW
  have T1 := Lib.hid (HT0.out W hW)
  clear hW HT0
  obtain ⟨g, eg⟩ : ∃ g, g = w.heap.size := ⟨_, rfl⟩
  rw [← eg] at T1 ⊢
  have HG := Lib.hid eg
  clear eg
  go_loopw [10] (fun i wr => ∃ v : Nat, v ≤ n ∧ i = .int .i64 v ∧ Hid (PRel w wr g q (wmx (mone v)))) (fun i _ => n - (intOf i).toNat)
  case atStart => exact ⟨0, Nat.zero_le _, rfl, T1⟩
  case round =>
    obtain ⟨v, hv, rfl, hr⟩ := hrel
    by_cases hlt : v < n
    · have hv6 : v < 6 := by omega
      have had := addr_mat (g + 1 + 1) v hv6
      have had2 := addr_row (g + 1 + 1) (v * 6) v hv6
      have hc := hr.out.2.2.1.cell hv6 hv6
      have hf := hr.out.2.2.1.frozen (v * 6 + v)
      have T2 := Lib.hid ((hr.out.set hv6 hv6 1).congr (mone_step v))
      obtain ⟨y, ey⟩ : ∃ y, y = wmx (mone v) v v := ⟨_, rfl⟩
      rw [← ey] at hc
      clear ey
      go_wp2
      go_roundw
      case rel => exact ⟨v + 1, by omega, by go_num, T2⟩
      case measure => simp [intOf]; omega
    · have hvn : v = n := by omega
      subst hvn
      go_wp2
      obtain ⟨wo, rfl⟩ : ∃ wo : World, wo = wr := ⟨_, rfl⟩
      go_loopw [19] (fun i wr => ∃ j : Nat, j ≤ k ∧ i = .int .i64 j ∧ Hid (PRel w wr g q (wmx (mpow m v j)))) (fun i _ => k - (intOf i).toNat)
      case atStart => exact ⟨0, Nat.zero_le _, rfl, hr⟩
      case round =>
        obtain ⟨j, hj, rfl, hr⟩ := hrel
        by_cases hlj : j < k
        · have hti := HTI.out (mpow m v j)
          obtain ⟨r, er⟩ : ∃ r, r = wmx (mpow m v j) := ⟨_, rfl⟩
          have hm : mpow m v (j + 1) = mmul (mpow m v j) m := rfl
          rw [← hm, ← er] at hti
          rw [← er] at hr
          have HT2 := Lib.hid hti
          have hki : (j : Int) < (k : Int) := by omega
          clear er hm hti
          go_wp2_with (first | refine step_load_mat rfl (.tmp 7) rfl _ _ rfl hr.out.2.2.1 ?_ | refine step_load_mat rfl (.tmp 3) rfl _ _ rfl hr.out.1 ?_)
          refine (HT2.out _).mono ?_
          rintro e w1 ⟨rfl, b1⟩
          have h2 := Lib.hid (hr.out.2.2.1.below b1 hr.out.2.2.1.lt)
          have h3 := Lib.hid (hr.out.stored b1 (wmx (mpow m v (j + 1))))
          clear b1
          go_wp2_with (refine step_store_mat rfl (.tmp 7) (.tmp 23) rfl _ _ _ rfl rfl h2.out ?_)
          go_roundw
          case rel => exact ⟨j + 1, by omega, by go_num, h3⟩
          case measure => simp [intOf]; omega
        · have hjk : j = k := by omega
          subst hjk
          go_wp2_with (first | refine step_load_mat rfl (.tmp 7) rfl _ _ rfl hr.out.2.2.1 ?_ | refine step_store_mat rfl (.tmp 6) (.tmp 25) rfl _ _ _ rfl rfl hr.out.2.1 ?_)
          have h2 := hr.out.2.1.stored (wmx (mpow m v j))
          refine bodyPost_ret (results_cell_row rfl _ _ _ _ _ _ _ rfl h2 mat_desc rfl (by rw [matC_size]; exact mat_info)) rfl ?_
          refine ⟨rfl, ?_⟩
          rw [← HG.out]
          exact below_setRow hr.out.2.2.2 (by omega) _
end Go.Proofs.YtogmfbhnnnoipaaDoor
