/- times of rows of numbers. -/
import Derived.Test.YtdhpamemkkfhhaaDoorMadeV
import Derived.StillTailTactics
namespace Go.Proofs.YtdhpamemkkfhhaaDoor
open Go.RowKit Go.WideShapes
set_option linter.unusedVariables false
set_option maxRecDepth 100000

theorem run_make_whole (n : Nat) (hn : n ≤ 1048576) : ∀ w : World, (Instr.makeSlice 69 (.int .i64 (n : Int)) (.int .i64 (n : Int))).run Tryd.prog w = .ok (.slice (some ⟨w.heap.size, 0, none⟩) n n) (madeV 70 (.int .i64 0) w n) :=
  run_make_v _ _ (.int .i64 0) 8 Tryd.underlying69 infoWhole (by decide) rfl n hn
theorem wrap_sum (i j s : Nat) (h : s = i + j) (hs : s ≤ 2000) : wrap64 ((i : Int) + (j : Int)) = (s : Int) ∧ IntKind.i64.wrap ((i : Int) + (j : Int)) = (s : Int) := by
  refine ⟨by unfold wrap64; omega, by rw [IntKind.wrap_i64]; omega⟩
abbrev wadd (a b : Int) : Int := wrap64 (a + b)
abbrev wmul (a b : Int) : Int := wrap64 (a * b)
set_option maxHeartbeats 4000000 in
theorem timesR_none (A A' : Option Addr) (c c' : Nat) (p q : List Int) (hz : p.length = 0 ∨ q.length = 0) (w : World) :
    Calls Tryd.prog 124 #[.slice A p.length c, .slice A' q.length c'] w (GaveP w []) := by
  obtain ⟨m, em⟩ : ∃ m, m = p.length := ⟨_, rfl⟩
  obtain ⟨k, ek⟩ : ∃ k, k = q.length := ⟨_, rfl⟩
  rw [← em, ← ek] at hz ⊢
  clear em ek
  by_cases hm : m = 0
  · subst hm
    clear hz
    go_enter Tryd.func124, Tryd.ntmps124
    go_wp2
    go_ret
    exact ⟨_, rfl, pv_nil w, Below.refl _ _, fun k hk => by cases hk⟩
  · have hk : k = 0 := by omega
    subst hk
    have e1 : ((m : Int) == 0) = false := by simp; omega
    clear hz hm
    go_enter Tryd.func124, Tryd.ntmps124
    go_wp2
    go_ret
    exact ⟨_, rfl, pv_nil w, Below.refl _ _, fun k hk => by cases hk⟩
set_option maxHeartbeats 4000000 in
theorem timesR_some (A A' : Option Addr) (c c' : Nat) (p q : List Int) (hp1 : p.length ≤ 500) (hq1 : q.length ≤ 500) (hp0 : 0 < p.length) (hq0 : 0 < q.length) (w : World) (hp : Seen w A p) (hq : Seen w A' q) :
    Calls Tryd.prog 124 #[.slice A p.length c, .slice A' q.length c'] w (GaveP w (timOut wadd wmul 0 p q p.length)) := by
  obtain ⟨m, em⟩ : ∃ m, m = p.length := ⟨_, rfl⟩
  obtain ⟨k, ek⟩ : ∃ k, k = q.length := ⟨_, rfl⟩
  rw [← em] at hp1 hp0 ⊢
  rw [← ek] at hq1 hq0 ⊢
  have e1 : ((m : Int) == 0) = false := by simp; omega
  have e2 : ((k : Int) == 0) = false := by simp; omega
  obtain ⟨N, hN⟩ : ∃ N, N = m + k - 1 := ⟨_, rfl⟩
  have hs : (m : Int) + (k : Int) - 1 = (N : Int) := by omega
  have hmk := run_make_whole N (by omega)
  have R0 : Hid (VRow 70 (madeV 70 (.int .i64 0) w N) w.heap.size (.slice (some ⟨w.heap.size, 0, none⟩) N N) ((timOut wadd wmul 0 p q 0).map (Value.int .i64))) := Lib.hid (by
    have h := madeV_row 70 (.int .i64 0) w N (by omega)
    show VRow _ _ _ _ ((List.replicate (p.length + q.length - 1) 0).map (Value.int .i64))
    rw [← em, ← ek, ← hN, List.map_replicate]
    exact h)
  have B0 := Lib.hid (madeV_below 70 (.int .i64 0) w N)
  have EM := Lib.hid em
  have EK := Lib.hid ek
  have HP := Lib.hid hp
  have HQ := Lib.hid hq
  have HL : Hid (∀ i, (timOut wadd wmul 0 p q i).length = N) := Lib.hid (fun i => by rw [timOut_length, hN, em, ek])
  have hNb : N ≤ 1000 ∧ N + 1 = m + k := by omega
  clear em ek hp hq hN
  go_enter Tryd.func124, Tryd.ntmps124
  go_wp2
  obtain ⟨g, eg⟩ : ∃ g, g = w.heap.size := ⟨_, rfl⟩
  have hgw : w.heap.size ≤ g := by omega
  rw [← eg]
  have R1 : Hid (VRow 70 (madeV 70 (.int .i64 0) w N) w.heap.size (.slice (some ⟨g, 0, none⟩) N N) ((timOut wadd wmul 0 p q 0).map (Value.int .i64))) := by rw [eg]; exact R0
  have HNB := Lib.hid hNb
  clear R0 hmk eg hs hNb
  go_loopw [6, 7, 8, 9, 27] (fun _ _ _ _ i wr => ∃ j : Nat, j ≤ m ∧ i = .int .i64 j ∧ Hid (VRow 70 wr w.heap.size (.slice (some ⟨g, 0, none⟩) N N) ((timOut wadd wmul 0 p q j).map (Value.int .i64))) ∧ Hid (Below w.heap.size w wr)) (fun _ _ _ _ i _ => m - (intOf i).toNat)
  case atStart => exact ⟨0, Nat.zero_le _, rfl, R1, B0⟩
  case round =>
    obtain ⟨i, hi, rfl, hr, hb⟩ := hrel
    by_cases him : i < m
    · obtain ⟨b, off, rfl, hbl, hc⟩ := HP.out i (by have := EM.out; omega)
      have hca : wr.cell? ⟨b, off + i, none⟩ = some (.int .i64 (p[i]?.getD 0)) := (hb.out.cell (p := ⟨b, off + i, none⟩) hbl).trans hc
      have hst : timOut wadd wmul 0 p q (i + 1) = timIn wadd wmul 0 (p[i]?.getD 0) (timOut wadd wmul 0 p q i) q i q.length := rfl
      have hlen := HL.out i
      obtain ⟨P, eP⟩ : ∃ P, P = timOut wadd wmul 0 p q i := ⟨_, rfl⟩
      obtain ⟨x, ex⟩ : ∃ x, x = p[i]?.getD 0 := ⟨_, rfl⟩
      rw [← eP] at hst hlen hr
      rw [← ex] at hst hca
      rw [← EK.out] at hst
      have hr0 : Hid (VRow 70 wr w.heap.size (.slice (some ⟨g, 0, none⟩) N N) ((timIn wadd wmul 0 x P q i 0).map (Value.int .i64))) := hr
      have hi1 : (0 : Int) ≤ (i : Int) ∧ (i : Int) < (m : Int) := by omega
      have HST := Lib.hid hst
      have HLN := Lib.hid hlen
      clear hst hlen hr eP ex hc hbl
      go_wp2
      go_loopw [8, 9, 34] (fun _ _ i2 wr => ∃ j : Nat, j ≤ k ∧ i2 = .int .i64 j ∧ Hid (VRow 70 wr w.heap.size (.slice (some ⟨g, 0, none⟩) N N) ((timIn wadd wmul 0 x P q i j).map (Value.int .i64))) ∧ Hid (Below w.heap.size w wr)) (fun _ _ i2 _ => k - (intOf i2).toNat)
      case atStart => exact ⟨0, Nat.zero_le _, rfl, hr0, hb⟩
      case round =>
        obtain ⟨j, hj, rfl, hr, hb⟩ := hrel
        by_cases hjk : j < k
        · obtain ⟨b2, off2, rfl, hbl, hc⟩ := HQ.out j (by have := EK.out; omega)
          have hcb : wr.cell? ⟨b2, off2 + j, none⟩ = some (.int .i64 (q[j]?.getD 0)) := (hb.out.cell (p := ⟨b2, off2 + j, none⟩) hbl).trans hc
          have hlen : (timIn wadd wmul 0 x P q i j).length = N := by rw [timIn_length]; exact HLN.out
          obtain ⟨s, es⟩ : ∃ s, s = i + j := ⟨_, rfl⟩
          have hsum : (i : Int) + (j : Int) = (s : Int) := by omega
          have hsN : s < N := by have := HNB.out; omega
          have hi2 : (0 : Int) ≤ (j : Int) ∧ (j : Int) < (k : Int) := by omega
          have hi3 : (0 : Int) ≤ (s : Int) ∧ (s : Int) < (N : Int) := by omega
          have HSW := Lib.hid (wrap_sum i j s es (Nat.le_trans (Nat.le_of_lt hsN) (Nat.le_trans HNB.out.1 (by decide))))
          have hcl := hr.out.cellAt s (by rw [List.length_map, hlen]; exact hsN)
          have hcf := hr.out.frozenAt s
          rw [getD_map _ _ (by rw [hlen]; exact hsN)] at hcl
          have hst2 : timIn wadd wmul 0 x P q i (j + 1) = (timIn wadd wmul 0 x P q i j).set (i + j) (wadd ((timIn wadd wmul 0 x P q i j)[i + j]?.getD 0) (wmul x (q[j]?.getD 0))) := rfl
          rw [← es] at hst2
          obtain ⟨y, ey⟩ : ∃ y, y = q[j]?.getD 0 := ⟨_, rfl⟩
          obtain ⟨u, eu⟩ : ∃ u, u = (timIn wadd wmul 0 x P q i j)[s]?.getD 0 := ⟨_, rfl⟩
          rw [← ey, ← eu] at hst2
          rw [← ey] at hcb
          rw [← eu] at hcl
          have hcl2 : wr.cell? ⟨g, s, none⟩ = some (.int .i64 u) := hcl
          obtain ⟨xy, exy⟩ : ∃ xy, xy = wmul x y := ⟨_, rfl⟩
          obtain ⟨z, ez⟩ : ∃ z, z = wadd u xy := ⟨_, rfl⟩
          rw [← exy, ← ez] at hst2
          have HT : Hid (∀ w1 : World, Calls Tryd.prog 127 #[.int .i64 x, .int .i64 y] w1 fun e w' => e = .returned (.int .i64 xy) ∧ w1 = w') := Lib.hid (fun w1 => by rw [exy]; exact wtimes_any x y w1)
          have HA : Hid (∀ w1 : World, Calls Tryd.prog 126 #[.int .i64 u, .int .i64 xy] w1 fun e w' => e = .returned (.int .i64 z) ∧ w1 = w') := Lib.hid (fun w1 => by rw [ez]; exact wplus_any u xy w1)
          have hb2 := Lib.hid ((show Below w.heap.size w wr.drew from hb.out.drew).setCell (p := ⟨g, s, none⟩) hgw (.int .i64 z))
          have hr2 : Hid (VRow 70 (wr.drew.setCell ⟨g, s, none⟩ (.int .i64 z)) w.heap.size (.slice (some ⟨g, 0, none⟩) N N) ((timIn wadd wmul 0 x P q i (j + 1)).map (Value.int .i64))) := Lib.hid (by
            rw [hst2, ← map_set]
            exact (show VRow 70 wr.drew w.heap.size (.slice (some ⟨g, 0, none⟩) N N) _ from hr.out).set s (.int .i64 z))
          have hm1 : ∀ w : World, (method 225 70 (.int .i64 x) "loop.example/graphpieces/impl.times").run Tryd.prog w = .ok (127, .int .i64 x) w := fun _ => by kernel_rfl
          have hm2 : ∀ w : World, (method 225 70 (.int .i64 u) "loop.example/graphpieces/impl.plus").run Tryd.prog w = .ok (126, .int .i64 u) w := fun _ => by kernel_rfl
          obtain ⟨hsw, hsk⟩ := HSW.out
          clear HSW hsum hst2 exy ez ey eu hcl hc hbl hlen es hr hb HLN
          go_wp2
          refine wp_region_still_tail 17 (by kernel_rfl) (by kernel_rfl) ?_
          simp only [List.take_succ_cons, List.take_zero, List.drop_succ_cons, List.drop_zero]
          repeat still_step
          still_call ((HT.out _).mono fun e w' ⟨he, hw⟩ => ⟨he, hw.symm⟩)
          repeat still_step
          still_call ((HA.out _).mono fun e w' ⟨he, hw⟩ => ⟨he, hw.symm⟩)
          repeat still_step
          refine wpStill_nil ?_
          have hcd : wr.drew.cell? ⟨g, s, none⟩ = some (.int .i64 u) := hcl2
          have hfd : wr.drew.frozen? ⟨g, s, none⟩ = false := hcf
          change wpList _ _ _ _ _ wr.drew
          go_wp2
          go_roundw
          case rel => exact ⟨j + 1, hjk, by go_num, hr2, hb2⟩
          case measure => clear hsw hsk; simp [intOf]; omega
        · have hje : j = k := by omega
          subst hje
          have hr2 : Hid (VRow 70 wr w.heap.size (.slice (some ⟨g, 0, none⟩) N N) ((timOut wadd wmul 0 p q (i + 1)).map (Value.int .i64))) := Lib.hid (by rw [HST.out]; exact hr.out)
          clear hr
          go_wp2
          go_roundw
          case rel => exact ⟨i + 1, by omega, by go_num, hr2, hb⟩
          case measure => simp [intOf]; omega
    · have hie : i = m := by omega
      subst hie
      have hfin := Lib.hid (pv_own hr.out)
      have hfr := Lib.hid hr.out.lt
      have hlm : Hid ((timOut wadd wmul 0 p q i).length = N) := Lib.hid (HL.out i)
      clear hr
      go_wp2
      go_ret
      exact ⟨_, rfl, hfin.out, hb.out, fun k hk => (hfr.out k hk).1⟩
theorem timesR_any (v u : Value) (p q : List Int) (hp1 : p.length ≤ 500) (hq1 : q.length ≤ 500) (w : World) (hp : PV w v p) (hq : PV w u q) :
    Calls Tryd.prog 124 #[v, u] w (GaveP w (timesR p q)) := by
  obtain ⟨A, c, rfl, _, h1, _⟩ := hp
  obtain ⟨A', c', rfl, _, h2, _⟩ := hq
  unfold timesR timesG
  by_cases hz : p.length = 0 ∨ q.length = 0
  · rw [if_pos hz]; exact timesR_none A A' c c' p q hz w
  · rw [if_neg hz]; exact timesR_some A A' c c' p q hp1 hq1 (by omega) (by omega) w h1 h2
end Go.Proofs.YtdhpamemkkfhhaaDoor
