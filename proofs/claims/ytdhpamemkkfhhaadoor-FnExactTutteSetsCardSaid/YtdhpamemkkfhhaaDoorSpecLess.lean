/- The model's l8Less: the numbers of (x - 1) to a power. -/
import Derived.Test.YtdhpamemkkfhhaaDoorRowsKit
import Derived.Test.YtdhpamemkkfhhaaDoorSpecActive
import Derived.Test.YtdhpamemkkfhhaaDoorRowsOf
import Derived.StillTailTactics
namespace Go.Proofs.YtdhpamemkkfhhaaDoor
open Go Go.RowKit
set_option linter.unusedVariables false
set_option maxRecDepth 100000

def lessIn (P : List Int) : Nat → List Int
  | 0 => List.replicate (P.length + 1) 0
  | i + 1 =>
    let q := (lessIn P i).set i (wrap64 ((lessIn P i)[i]?.getD 0 - P[i]?.getD 0))
    q.set (i + 1) (wrap64 (q[i + 1]?.getD 0 + P[i]?.getD 0))
def lessL : Nat → List Int
  | 0 => [1]
  | k + 1 => lessIn (lessL k) (lessL k).length
theorem lessIn_length (P : List Int) (i : Nat) : (lessIn P i).length = P.length + 1 := by
  induction i with
  | zero => simp [lessIn]
  | succ i ih => unfold lessIn; rw [List.length_set, List.length_set, ih]
theorem lessL_length (k : Nat) : (lessL k).length = k + 1 := by
  induction k with
  | zero => rfl
  | succ k ih => unfold lessL; rw [lessIn_length, ih]
theorem wrap_succ (b c : Nat) (h : c = b + 1) (hc : c ≤ 2000) : wrap64 ((b : Int) + 1) = (c : Int) ∧ IntKind.i64.wrap ((b : Int) + 1) = (c : Int) := by
  refine ⟨by unfold wrap64; omega, by rw [IntKind.wrap_i64]; omega⟩
def GaveL1 (w : World) (L : List Int) (e : Ending) (w' : World) : Prop := ∃ v, e = .returned v ∧ Row w' w.heap.size v L ∧ Below w.heap.size w w'
set_option maxHeartbeats 4000000 in
theorem specLess_any (k : Nat) (hk : k ≤ 20) (w : World) : Calls Tryd.prog 40 #[.int .i64 (k : Nat)] w (GaveL1 w (lessL k)) := by
  have hms : ∀ x m, (madeW x m).heap.size = x.heap.size + 1 := fun x m => madeW_size x m
  have R0 : Hid (Row (w.alloc (.cells #[.int .i64 1] 3)) w.heap.size (.slice (some ⟨w.heap.size, 0, none⟩) 1 1) (lessL 0)) := Lib.hid (World.ownsRow_lit (base := w.heap.size) (e := 3) (size := 1) w #[.int .i64 1] 1 (Nat.le_refl _) (by unfold maxLen; omega) rfl)
  have B0 := Lib.hid ((Below.refl w.heap.size w).alloc (Nat.le_refl _) (.cells #[.int .i64 1] 3))
  go_enter Tryd.func40, Tryd.ntmps40
  go_wp2
  go_loopw [3, 4, 5, 6] (fun p i _ _ wr => ∃ a : Nat, a ≤ k ∧ i = .int .i64 a ∧ Hid (Row wr w.heap.size p (lessL a)) ∧ Hid (Below w.heap.size w wr)) (fun _ i _ _ _ => k - (intOf i).toNat)
  case atStart => exact ⟨0, Nat.zero_le _, rfl, R0, B0⟩
  case round =>
    obtain ⟨a, ha, rfl, hp, hb⟩ := hrel
    by_cases hak : a < k
    · have hPl := lessL_length a
      have hst : lessL (a + 1) = lessIn (lessL a) (lessL a).length := rfl
      obtain ⟨P, eP⟩ : ∃ P, P = lessL a := ⟨_, rfl⟩
      rw [← eP] at hp hPl hst
      obtain ⟨m, em⟩ : ∃ m, m = P.length := ⟨_, rfl⟩
      rw [← em] at hst hPl
      obtain ⟨g, cp, rfl⟩ : ∃ g cp, u3 = .slice (some ⟨g, 0, none⟩) m cp := by
        obtain ⟨A5, c5, e5, hA5⟩ := hp.out.see
        obtain ⟨b, eb5, _⟩ := hA5 0 (by omega)
        exact ⟨b, c5, by rw [e5, eb5, em]⟩
      obtain ⟨M, eM⟩ : ∃ M, M = m + 1 := ⟨_, rfl⟩
      have a3 : (m : Int) + 1 = (M : Int) := by omega
      have hmi := run_make_ints M (by omega)
      have HM := Lib.hid (show Row (madeW wr M) wr.heap.size (.slice (some ⟨wr.heap.size, 0, none⟩) M M) (lessIn P 0) by
        have h := madeW_row wr M (by omega)
        have e : lessIn P 0 = ints (List.replicate M 0) := by unfold lessIn; rw [eM, em]; simp [ints]
        rw [e]; exact h)
      have HMB := Lib.hid (madeW_below wr M)
      have HST := Lib.hid hst
      have HEM := Lib.hid (And.intro em eM)
      have hm21 : m ≤ 21 := by omega
      clear hPl hst em eM eP
      go_wp2
      obtain ⟨wo, ewo⟩ : ∃ wo, wo = wr := ⟨_, rfl⟩
      subst ewo
      obtain ⟨gq, egq⟩ : ∃ gq, gq = wo.heap.size := ⟨_, rfl⟩
      rw [← egq] at HM HMB ⊢
      obtain ⟨W0, eW0⟩ : ∃ W0, W0 = madeW wo M := ⟨_, rfl⟩
      rw [← eW0] at HM HMB ⊢
      have HGQ := Lib.hid egq
      have hgs := hb.out.size
      have HGS := Lib.hid (show w.heap.size ≤ gq by omega)
      clear hmi a3 egq eW0 hgs
      go_loopw [6] (fun j wr => ∃ b : Nat, b ≤ m ∧ j = .int .i64 b ∧ Hid (Row wr gq (.slice (some ⟨gq, 0, none⟩) M M) (lessIn P b)) ∧ Hid (Below gq wo wr)) (fun j _ => m - (intOf j).toNat)
      case atStart => exact ⟨0, Nat.zero_le _, rfl, HM, HMB⟩
      case round =>
        obtain ⟨b, hbm, rfl, hq, hbi⟩ := hrel
        by_cases hbl : b < m
        · have hp2 : Row wr w.heap.size (.slice (some ⟨g, 0, none⟩) m cp) P := hp.out.below (by rw [← HGQ.out]; exact hbi.out)
          have hQl := lessIn_length P b
          have hst2 : lessIn P (b + 1) = (((lessIn P b).set b (wrap64 ((lessIn P b)[b]?.getD 0 - P[b]?.getD 0))).set (b + 1) (wrap64 (((lessIn P b).set b (wrap64 ((lessIn P b)[b]?.getD 0 - P[b]?.getD 0)))[b + 1]?.getD 0 + P[b]?.getD 0))) := rfl
          obtain ⟨Q, eQ⟩ : ∃ Q, Q = lessIn P b := ⟨_, rfl⟩
          rw [← eQ] at hq hQl hst2
          have hem := HEM.out
          have hbP : b < P.length := by omega
          have hbQ : b < Q.length := by omega
          obtain ⟨c, ec⟩ : ∃ c, c = b + 1 := ⟨_, rfl⟩
          rw [← ec] at hst2
          have HWS := Lib.hid (wrap_succ b c ec (by omega))
          have cq := hq.out.cellAt b hbQ
          have fq := hq.out.frozenAt b hbQ
          have cP := hp2.cellAt b hbP
          obtain ⟨x, ex⟩ : ∃ x, x = Q[b]?.getD 0 := ⟨_, rfl⟩
          obtain ⟨y, ey⟩ : ∃ y, y = P[b]?.getD 0 := ⟨_, rfl⟩
          rw [← ex, ← ey] at hst2
          rw [← ex] at cq
          rw [← ey] at cP
          have rs : Row (wr.setCell ⟨gq, b, none⟩ (.int .i64 (wrap64 (x - y)))).drew gq (.slice (some ⟨gq, 0, none⟩) M M) (Q.set b (wrap64 (x - y))) := Row.drewN (hq.out.set b hbQ (wrap64 (x - y))) 1
          have bs : Below gq wo (wr.setCell ⟨gq, b, none⟩ (.int .i64 (wrap64 (x - y)))).drew := (hbi.out.setCell (p := ⟨gq, b, none⟩) (Nat.le_refl _) _).drew
          have ps : Row (wr.setCell ⟨gq, b, none⟩ (.int .i64 (wrap64 (x - y)))).drew w.heap.size (.slice (some ⟨g, 0, none⟩) m cp) P := hp.out.below (by rw [← HGQ.out]; exact bs)
          obtain ⟨W1, eW1⟩ : ∃ W1, W1 = (wr.setCell ⟨gq, b, none⟩ (.int .i64 (wrap64 (x - y)))).drew := ⟨_, rfl⟩
          rw [← eW1] at rs bs ps
          obtain ⟨Q1, eQ1⟩ : ∃ Q1, Q1 = Q.set b (wrap64 (x - y)) := ⟨_, rfl⟩
          rw [← eQ1] at rs hst2
          have hQ1 : c < Q1.length := by rw [eQ1, List.length_set]; omega
          have cq1 := rs.cellAt c hQ1
          have fq1 := rs.frozenAt c hQ1
          have cP1 := ps.cellAt b hbP
          obtain ⟨z, ez⟩ : ∃ z, z = Q1[c]?.getD 0 := ⟨_, rfl⟩
          rw [← ez] at cq1 hst2
          rw [← ey] at cP1
          have rs2 : Row (W1.drew.setCell ⟨gq, c, none⟩ (.int .i64 (wrap64 (z + y)))) gq (.slice (some ⟨gq, 0, none⟩) M M) (lessIn P c) := by
            rw [hst2]
            exact (rs.below (Below.refl _ _).drew).set c hQ1 (wrap64 (z + y))
          have bs2 : Below gq wo (W1.drew.setCell ⟨gq, c, none⟩ (.int .i64 (wrap64 (z + y)))) := (bs.drew).setCell (p := ⟨gq, c, none⟩) (Nat.le_refl _) _
          have RS2 := Lib.hid rs2
          have BS2 := Lib.hid bs2
          have hi1 : (0 : Int) ≤ (b : Int) ∧ (b : Int) < (m : Int) := by omega
          have hi2 : (0 : Int) ≤ (b : Int) ∧ (b : Int) < (M : Int) := by omega
          have hi3 : (0 : Int) ≤ (c : Int) ∧ (c : Int) < (M : Int) := by omega
          have hcm : c ≤ m := by omega
          have dq : wr.drew.cell? ⟨gq, b, none⟩ = some (.int .i64 x) := cq
          have dP : wr.drew.cell? ⟨g, b, none⟩ = some (.int .i64 y) := cP
          have df : wr.drew.frozen? ⟨gq, b, none⟩ = false := fq
          have dq1 : W1.drew.cell? ⟨gq, c, none⟩ = some (.int .i64 z) := cq1
          have dP1 : W1.drew.cell? ⟨g, b, none⟩ = some (.int .i64 y) := cP1
          have df1 : W1.drew.frozen? ⟨gq, c, none⟩ = false := fq1
          have hmC : m - c < m - b := by omega
          clear rs bs ps rs2 bs2 hst2 ex ey ez eQ1 eQ hQ1 hbP hbQ hem hQl hp2 ec
          obtain ⟨hws, hwk⟩ := HWS.out
          go_wp2
          go_still_tail 12, (by kernel_rfl)
          change wpList _ _ _ _ _ wr.drew
          clear cq cP fq
          go_wp2
          rw [← eW1]
          clear eW1 dq dP df
          go_still_tail 14, (by kernel_rfl)
          change wpList _ _ _ _ _ W1.drew
          clear cq1 cP1 fq1
          go_wp2
          go_roundw
          case rel => exact ⟨c, hcm, rfl, RS2, BS2⟩
          case measure => clear hws hwk; simp [intOf]; omega
        · have hbe : b = m := by omega
          subst hbe
          have hfin : Hid (Row wr w.heap.size (.slice (some ⟨gq, 0, none⟩) M M) (lessL (a + 1))) := Lib.hid (by rw [HST.out]; exact hq.out.mono HGS.out)
          have hbf := Lib.hid (hb.out.trans (hbi.out.mono HGS.out))
          go_wp2
          go_roundw
          case rel => exact ⟨a + 1, by omega, by go_num, hfin, hbf⟩
          case measure => simp [intOf]; omega
    · have hke : a = k := by omega
      subst hke
      go_wp2
      go_ret
      exact ⟨_, rfl, hp.out, hb.out⟩
end Go.Proofs.YtdhpamemkkfhhaaDoor
