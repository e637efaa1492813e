/- The polynomial of a matrix, by the program (Newton's sums). -/
import Derived.Test.YtneglpklkmoclaaDoorTraces
import Derived.Test.YtneglpklkmoclaaDoorPolyMath
import Derived.Test.YtneglpklkmoclaaDoorBaseA
namespace Go.Proofs.YtneglpklkmoclaaDoor
open Go Go.RowKit
set_option linter.unusedVariables false
set_option maxRecDepth 100000

def PoRel (w wr : World) (vg lg n : Nat) (s : Nat → Int) (xs : List Int) : Prop :=
  VecAt wr vg s ∧ Row wr lg (.slice (some ⟨lg, 0, none⟩) (n + 1) (n + 1)) xs ∧ Below w.heap.size w wr
theorem PoRel.set {w wr : World} {vg lg n : Nat} {s : Nat → Int} {xs : List Int} (h : PoRel w wr vg lg n s xs) (hne : vg ≠ lg) (hw : w.heap.size ≤ lg) {j : Nat} (hj : j < xs.length) (x : Int) :
    PoRel w (wr.setCell ⟨lg, j, none⟩ (.int .i64 x)) vg lg n s (xs.set j x) :=
  ⟨h.1.other _ (by show vg ≠ lg; exact hne), h.2.1.set j hj x, h.2.2.setCell (p := ⟨lg, j, none⟩) hw _⟩
theorem PoRel.drew {w wr : World} {vg lg n : Nat} {s : Nat → Int} {xs : List Int} (h : PoRel w wr vg lg n s xs) : PoRel w wr.drew vg lg n s xs := ⟨h.1, h.2.1, h.2.2.drew⟩

theorem wrapK (x : Int) : IntKind.i64.wrap x = wrap64 x := by rw [IntKind.wrap_i64]; unfold wrap64; rfl
set_option maxHeartbeats 4000000 in
theorem mpoly_any (m : Mx) (n : Nat) (hn1 : 1 ≤ n) (hn : n ≤ 6) (p : Nat → Int) (hpm : ∀ i, p i = mtr (mpow m n i)) (hp : ∀ i, 1 ≤ i → i ≤ 6 → (p i).natAbs ≤ 6 * 10 ^ i) (w : World) :
    Calls Tryd.prog 66 #[.agg (matC (wmx m)), .int .i64 n] w (Gave w (pl p n n)) := by
  have HTR := Lib.hid (fun w => traces_any m n hn w)
  have hs : ∀ j, j < 7 → trTo m n 7 j = wrap64 (p j) := fun j hj => by unfold trTo; rw [if_pos hj, hpm]
  obtain ⟨s, es⟩ : ∃ s, s = trTo m n 7 := ⟨_, rfl⟩
  obtain ⟨q, eq⟩ : ∃ q, q = wmx m := ⟨_, rfl⟩
  rw [← es] at HTR hs
  rw [← eq] at HTR ⊢
  have HS := Lib.hid hs
  have HTS := Lib.hid (fun k (hk : k < 6) => eT_small hp hk)
  have HNS := Lib.hid (fun k (hk : k ≤ 6) => eN_small hp hk)
  obtain ⟨N, eN'⟩ : ∃ N, N = n + 1 := ⟨_, rfl⟩
  have hmk := run_make_ints N (by omega)
  have HMR := Lib.hid (fun w => madeW_row w N (by omega))
  have HMB := Lib.hid (fun w => madeW_below w N)
  have hcn : ((n : Nat) : Int) + 1 = (N : Int) := by omega
  have hnN : (0 : Int) ≤ (n : Int) ∧ (n : Int) < (N : Int) := by omega
  have HN := Lib.hid eN'
  have M0 := Lib.hid (MatAt.new w q)
  have B0 := Lib.hid ((Below.refl w.heap.size w).alloc (Nat.le_refl _) (.cells (matC q) 38))
  clear hs hpm hp es eq
  go_enter Tryd.func66, Tryd.ntmps66
  go_wp2_with (refine step_load_mat rfl (.tmp 2) rfl _ _ rfl M0.out ?_)
  refine (HTR.out _).mono ?_
  rintro e w1 ⟨rfl, b1⟩
  have V0 := Lib.hid (VecAt.new w1 (fun _ => 0))
  have V1 := Lib.hid (V0.out.stored s)
  have B1 := Lib.hid (below_setRow ((B0.out.trans (b1.mono B0.out.size)).alloc (Nat.le_trans B0.out.size b1.size) (.cells (vecC fun _ => 0) 87)) (Nat.le_trans B0.out.size b1.size) (vecC s))
  have HW1 := Lib.hid (Nat.le_trans B0.out.size b1.size)
  clear b1
  obtain ⟨W2, eW2⟩ : ∃ W2, W2 = (w1.alloc (.cells (vecC fun _ => 0) 87)).setRow w1.heap.size (vecC s) := ⟨_, rfl⟩
  have m0 := HMR.out W2
  have q0 : n < (ints (List.replicate N 0)).length := by rw [ints_length, List.length_replicate]; omega
  have c0 := m0.cellAt n q0
  have f0 := m0.frozenAt n q0
  have hW2s : W2.heap.size = w1.heap.size + 1 := by rw [eW2]; simp
  have hrel0 : PoRel w ((madeW W2 N).setCell ⟨W2.heap.size, n, none⟩ (.int .i64 1)) w1.heap.size W2.heap.size n s (pl p n 0) := by
    have h1 : PoRel w (madeW W2 N) w1.heap.size W2.heap.size n s (ints (List.replicate (n + 1) 0)) := by
      refine ⟨?_, ?_, ?_⟩
      · rw [eW2]; exact V1.out.below (HMB.out _) (by have := V1.out.lt; exact this)
      · have h := m0; rw [HN.out] at h ⊢; exact h
      · rw [eW2]; exact B1.out.trans ((HMB.out _).mono B1.out.size)
    have h2 := h1.set (by omega) (by have := HW1.out; omega) (j := n) (by rw [ints_length, List.length_replicate]; omega) 1
    rw [pl_start] at h2
    exact h2
  have HR0 := Lib.hid hrel0
  obtain ⟨y0, ey0⟩ : ∃ y0, y0 = (ints (List.replicate N 0))[n]?.getD 0 := ⟨_, rfl⟩
  rw [← ey0] at c0
  rw [hW2s] at c0 f0 HR0
  rw [eW2] at c0 f0 HR0
  clear hW2s
  clear m0 q0 hrel0 ey0 eN'
  go_wp2_with (first | refine step_alloc_vec rfl rfl ?_ | refine step_store_vec rfl (.tmp 5) (.tmp 11) rfl _ _ _ rfl rfl V0.out ?_)
  refine at_world (P := fun W => Code.wp _ _ _ _ W) _ ?_
  intro W3 hW3
  rw [← hW3] at HR0
  clear hW3 c0 f0 hmk hcn
  obtain ⟨vg, evg⟩ : ∃ vg, vg = w1.heap.size := ⟨_, rfl⟩
  have hlgw : w.heap.size ≤ vg + 1 := by have := HW1.out; omega
  rw [← evg] at HR0 ⊢
  have HLG := Lib.hid hlgw
  clear hlgw evg eW2
  go_loopw [7] (fun i wr => ∃ k : Nat, 1 ≤ k ∧ k ≤ N ∧ i = .int .i64 k ∧ Hid (PoRel w wr vg (vg + 1) n s (pl p n (k - 1)))) (fun i _ => N - (intOf i).toNat)
  case atStart => exact ⟨1, by omega, by omega, rfl, HR0⟩
  case round =>
    obtain ⟨k, hk1, hkN, rfl, hr⟩ := hrel
    by_cases hlt : k ≤ n
    · have hle : decide ((k : Int) ≤ (n : Int)) = true := decide_eq_true (by omega)
      have hz := pl_zero p n (k - 1) (by omega)
      rw [show k - 1 + 1 = k by omega] at hz
      have HZ := Lib.hid hz
      obtain ⟨wo, rfl⟩ : ∃ wo : World, wo = wr := ⟨_, rfl⟩
      clear hz
      go_wp2
      go_loopw [8] (fun i wr => ∃ i' : Nat, 1 ≤ i' ∧ i' ≤ k + 1 ∧ i = .int .i64 i' ∧ Hid (PoRel w wr vg (vg + 1) n s ((pl p n (k - 1)).set (n - k) (wrap64 (sg k * eT p k (i' - 1)))))) (fun i _ => k + 1 - (intOf i).toNat)
      case atStart => exact ⟨1, by omega, by omega, rfl, Lib.hid (by rw [HZ.out]; exact hr.out)⟩
      case round =>
        obtain ⟨i, hi1, hik, rfl, hr⟩ := hrel
        by_cases hli : i ≤ k
        · have hle2 : decide ((i : Int) ≤ (k : Int)) = true := decide_eq_true (by omega)
          obtain ⟨d, ed⟩ : ∃ d, d = n - k := ⟨_, rfl⟩
          obtain ⟨t, et⟩ : ∃ t, t = d + i := ⟨_, rfl⟩
          have hs1 : (n : Int) - (k : Int) = (d : Int) := by omega
          have hs2 : (d : Int) + (i : Int) = (t : Int) := by omega
          have hlen : ((pl p n (k - 1)).set d (wrap64 (sg k * eT p k (i - 1)))).length = n + 1 := by rw [List.length_set, pl_length]
          have hnN2 := HN.out
          have hcd : wr.cell? ⟨vg + 1, d, none⟩ = some (.int .i64 (wrap64 (sg k * eT p k (i - 1)))) := by
            have h := hr.out.2.1.cellAt d (by rw [← ed, hlen]; omega)
            rw [h, ← ed, getI_set _ _ _ _ (by rw [pl_length]; omega), if_pos rfl]
          have hct : wr.cell? ⟨vg + 1, t, none⟩ = some (.int .i64 (sg (k - i) * eN p (k - i))) := by
            have h := hr.out.2.1.cellAt t (by rw [← ed, hlen]; omega)
            rw [h, ← ed, getI_set _ _ _ _ (by rw [pl_length]; omega), if_neg (by omega), pl_get p n (k - 1) (by omega), if_pos (by omega), show n - t = k - i by omega]
          have hcv : wr.cell? ⟨vg, i, none⟩ = some (.int .i64 (wrap64 (p i))) := by
            rw [hr.out.1.cell (by omega), HS.out i (by omega)]
          have hfd := hr.out.2.1.frozenAt d (by rw [← ed, hlen]; omega)
          have had := addr_vec vg i (by omega)
          have hts := term_step p k (i - 1) (by omega)
          rw [show i - 1 + 1 = i by omega, show k - 1 - (i - 1) = k - i by omega] at hts
          have hwv := wrap_sub (sg k * eT p k (i - 1)) (p i) (sg (k - i) * eN p (k - i))
          rw [← hts] at hwv
          have hp2 := (hr.out.set (by omega) HLG.out (j := d) (by rw [← ed, hlen]; omega) (wrap64 (sg k * eT p k i))).drew
          rw [← ed, set_set] at hp2
          obtain ⟨Z, eZ⟩ : ∃ Z, Z = wrap64 (sg k * eT p k i) := ⟨_, rfl⟩
          obtain ⟨Y, eY⟩ : ∃ Y, Y = wrap64 (sg k * eT p k (i - 1)) := ⟨_, rfl⟩
          obtain ⟨X, eX⟩ : ∃ X, X = wrap64 (p i) := ⟨_, rfl⟩
          obtain ⟨E, eE⟩ : ∃ E, E = sg (k - i) * eN p (k - i) := ⟨_, rfl⟩
          rw [← eZ] at hwv hp2
          rw [← eY] at hwv hcd
          rw [← eX] at hwv hcv
          rw [← eE] at hwv hct
          have HP2 := Lib.hid hp2
          have EZ := Lib.hid eZ
          have ED := Lib.hid ed
          have HWV := Lib.hid hwv
          have hwd : IntKind.i64.wrap (d : Int) = (d : Int) := by rw [wrapK]; exact wrap_id (by omega) (by omega)
          have hwt : IntKind.i64.wrap (t : Int) = (t : Int) := by rw [wrapK]; exact wrap_id (by omega) (by omega)
          have hdN : (0 : Int) ≤ (d : Int) ∧ (d : Int) < (N : Int) := by omega
          have htN : (0 : Int) ≤ (t : Int) ∧ (t : Int) < (N : Int) := by omega
          have hcdd : wr.drew.cell? ⟨vg + 1, d, none⟩ = some (.int .i64 Y) := hcd
          have hfdd : wr.drew.frozen? ⟨vg + 1, d, none⟩ = false := hfd
          clear hp2 eZ eY eX eE hts hlen hnN2 ed et hr
          go_wp2
          go_still_tail 20, (by kernel_rfl)
          change wpList _ _ _ _ _ wr.drew
          clear hwv hs1 hs2 hcd hct hcv hfd had hwd hwt
          go_wp2
          clear hcdd hfdd
          go_roundw
          case rel => exact ⟨i + 1, by omega, by omega, by go_num, Lib.hid (by rw [← ED.out, show i + 1 - 1 = i by omega, ← EZ.out]; first | exact HP2.out | (rw [HWV.out]; exact HP2.out))⟩
          case measure => simp [intOf]; omega
        · have hik1 : i = k + 1 := by omega
          have hle2 : decide ((i : Int) ≤ (k : Int)) = false := decide_eq_false (by omega)
          obtain ⟨d, ed⟩ : ∃ d, d = n - k := ⟨_, rfl⟩
          have hs1 : (n : Int) - (k : Int) = (d : Int) := by omega
          have hr3 := hr.out
          rw [← ed, show i - 1 = k by omega] at hr3
          have hlen : ((pl p n (k - 1)).set d (wrap64 (sg k * eT p k k))).length = n + 1 := by rw [List.length_set, pl_length]
          have hts := HTS.out (k - 1) (by omega)
          have hen := eN_succ p (k - 1)
          have hns := HNS.out k (by omega)
          have hnx := pl_next p n (k - 1) (by omega)
          rw [show k - 1 + 1 = k by omega] at hts hen hnx
          have hwx : wrap64 (sg k * eT p k k) = sg k * eT p k k := wrap_abs (by rw [sg_abs]; exact hts)
          have hq : (sg k * eT p k k).tdiv (k : Int) = sg k * eN p k := by rw [sg_tdiv, ← hen]
          have hwy : wrap64 (sg k * eN p k) = sg k * eN p k := wrap_abs (by rw [sg_abs]; exact hns)
          have hnN2 := HN.out
          have hcd : wr.cell? ⟨vg + 1, d, none⟩ = some (.int .i64 (sg k * eT p k k)) := by
            have h := hr3.2.1.cellAt d (by rw [hlen]; omega)
            rw [h, getI_set _ _ _ _ (by rw [pl_length]; omega), if_pos rfl, hwx]
          have hfd := hr3.2.1.frozenAt d (by rw [hlen]; omega)
          have hp2 := hr3.set (by omega) HLG.out (j := d) (by rw [hlen]; omega) (sg k * eN p k)
          rw [set_set, ed, hnx, ← ed] at hp2
          obtain ⟨Y, eY⟩ : ∃ Y, Y = sg k * eT p k k := ⟨_, rfl⟩
          obtain ⟨E, eE⟩ : ∃ E, E = sg k * eN p k := ⟨_, rfl⟩
          rw [← eY] at hcd hq
          rw [← eE] at hq hwy hp2
          have HP2 := Lib.hid hp2
          have HWY := Lib.hid hwy
          have hdN : (0 : Int) ≤ (d : Int) ∧ (d : Int) < (N : Int) := by omega
          have hk0 : ((k : Int) == 0) = false := by simp; omega
          clear hp2 hr3 hts hen hns hnx hwx eY eE hlen hnN2 ed hr
          go_wp2
          go_roundw
          case rel => exact ⟨k + 1, by omega, by omega, by go_num, Lib.hid (by rw [show k + 1 - 1 = k by omega]; first | exact HP2.out | (rw [HWY.out]; exact HP2.out))⟩
          case measure => simp [intOf]; omega
    · have hkn : k = N := by have := HN.out; omega
      have hle : decide ((k : Int) ≤ (n : Int)) = false := decide_eq_false (by omega)
      have HRR := Lib.hid (show PoRel w wr vg (vg + 1) n s (pl p n n) by have h := hr.out; rw [show k - 1 = n by have := HN.out; omega] at h; exact h)
      go_wp2
      go_ret
      exact ⟨_, rfl, by have h := HRR.out.2.1; rw [HN.out]; exact h.mono HLG.out, HRR.out.2.2⟩
end Go.Proofs.YtneglpklkmoclaaDoor
