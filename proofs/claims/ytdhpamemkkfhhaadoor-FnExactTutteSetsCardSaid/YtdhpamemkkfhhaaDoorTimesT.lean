/- times of tables. -/
import Derived.Test.YtdhpamemkkfhhaaDoorPlusT
import Derived.Test.YtdhpamemkkfhhaaDoorTimesR
import Derived.Deep.RegionHeldLaw
namespace Go.Proofs.YtdhpamemkkfhhaaDoor
open Go.RowKit Go.WideShapes
set_option linter.unusedVariables false
set_option maxRecDepth 100000

theorem run_make_pow (n : Nat) (hn : n ≤ 1048576) : ∀ w : World, (Instr.makeSlice 64 (.int .i64 (n : Int)) (.int .i64 (n : Int))).run Tryd.prog w = .ok (.slice (some ⟨w.heap.size, 0, none⟩) n n) (madeV 69 (.slice none 0 0) w n) :=
  run_make_v _ _ (.slice none 0 0) 24 Tryd.underlying64 infoPow (by decide) rfl n hn
set_option maxHeartbeats 4000000 in
theorem timesT_none (A A' : Option Addr) (c c' : Nat) (p q : List (List Int)) (hz : p.length = 0 ∨ q.length = 0) (w : World) :
    Calls Tryd.prog 93 #[.slice A p.length c, .slice A' q.length c'] w (GaveT w []) := by
  obtain ⟨m, em⟩ : ∃ m, m = p.length := ⟨_, rfl⟩
  obtain ⟨k, ek⟩ : ∃ k, k = q.length := ⟨_, rfl⟩
  rw [← em, ← ek] at hz ⊢
  clear em ek
  by_cases hm : m = 0
  · subst hm
    clear hz
    go_enter Tryd.func93, Tryd.ntmps93
    go_wp2
    go_ret
    exact ⟨_, rfl, tv_nil w, Below.refl _ _⟩
  · have hk : k = 0 := by omega
    subst hk
    have e1 : ((m : Int) == 0) = false := by simp; omega
    clear hz hm
    go_enter Tryd.func93, Tryd.ntmps93
    go_wp2
    go_ret
    exact ⟨_, rfl, tv_nil w, Below.refl _ _⟩
set_option maxHeartbeats 8000000 in
theorem timesT_some (A A' : Option Addr) (c c' : Nat) (p q : List (List Int)) (hp1 : p.length ≤ 500) (hq1 : q.length ≤ 500) (hp0 : 0 < p.length) (hq0 : 0 < q.length) (hrp : RowsLe p 120) (hrq : RowsLe q 120) (w : World) (hp : TV w (.slice A p.length c) p) (hq : TV w (.slice A' q.length c') q) :
    Calls Tryd.prog 93 #[.slice A p.length c, .slice A' q.length c'] w (GaveT w (timOut plusR timesR [] p q p.length)) := by
  obtain ⟨m, em⟩ : ∃ m, m = p.length := ⟨_, rfl⟩
  obtain ⟨k, ek⟩ : ∃ k, k = q.length := ⟨_, rfl⟩
  have hps : ∀ j, j < p.length → ∃ b off u, A = some ⟨b, off, none⟩ ∧ b < w.heap.size ∧ w.cell? ⟨b, off + j, none⟩ = some u ∧ PV w u (p[j]?.getD []) := by
    obtain ⟨a0, c0, e0, _, h0, _⟩ := hp
    injection e0 with e1 e2 e3
    rw [e1]
    exact h0
  have hqs : ∀ j, j < q.length → ∃ b off u, A' = some ⟨b, off, none⟩ ∧ b < w.heap.size ∧ w.cell? ⟨b, off + j, none⟩ = some u ∧ PV w u (q[j]?.getD []) := by
    obtain ⟨a0, c0, e0, _, h0, _⟩ := hq
    injection e0 with e1 e2 e3
    rw [e1]
    exact h0
  have HRO := Lib.hid (fun i => rowsLe_out hrp hrq i)
  have HRI := Lib.hid (fun (x : List Int) (hx : x.length ≤ 120) i j => rowsLe_tim hrp hrq (rowsLe_out hrp hrq i) hx i j)
  have HRP := Lib.hid hrp
  have HRQ := Lib.hid hrq
  rw [← em] at hp1 hp0 ⊢
  rw [← ek] at hq1 hq0 ⊢
  have e1 : ((m : Int) == 0) = false := by simp; omega
  have e2 : ((k : Int) == 0) = false := by simp; omega
  obtain ⟨N, hN⟩ : ∃ N, N = m + k - 1 := ⟨_, rfl⟩
  have hs : (m : Int) + (k : Int) - 1 = (N : Int) := by omega
  have hmk := run_make_pow N (by omega)
  have R0 : Hid (TRow (madeV 69 (.slice none 0 0) w N) w.heap.size (.slice (some ⟨w.heap.size, 0, none⟩) N N) (timOut plusR timesR [] p q 0)) := Lib.hid (by
    have h := madeV_row 69 (.slice none 0 0) w N (by omega)
    refine ⟨_, h, ?_, fun j hj => ?_⟩
    · rw [List.length_replicate, timOut_length, ← em, ← ek, hN]
    · rw [timOut_length, ← em, ← ek, ← hN] at hj
      show PV _ ((List.replicate N (Value.slice none 0 0))[j]?.getD undef) ((List.replicate (p.length + q.length - 1) ([] : List Int))[j]?.getD []) ∧ _
      rw [← em, ← ek, ← hN, List.getElem?_replicate, if_pos hj, List.getElem?_replicate, if_pos hj]
      exact ⟨pv_nil _, fun g _ e => by cases e⟩)
  have B0 := Lib.hid (madeV_below 69 (.slice none 0 0) w N)
  have EM := Lib.hid em
  have EK := Lib.hid ek
  have HP := Lib.hid hps
  have HQ := Lib.hid hqs
  have HL : Hid (∀ i, (timOut plusR timesR [] p q i).length = N) := Lib.hid (fun i => by rw [timOut_length, hN, em, ek])
  have hNb : N ≤ 1000 ∧ N + 1 = m + k := by omega
  clear em ek hp hq hN hps hqs hrp hrq
  go_enter Tryd.func93, Tryd.ntmps93
  go_wp2
  obtain ⟨g, eg⟩ : ∃ g, g = w.heap.size := ⟨_, rfl⟩
  have hgw : w.heap.size ≤ g := by omega
  rw [← eg]
  have R1 : Hid (TRow (madeV 69 (.slice none 0 0) w N) w.heap.size (.slice (some ⟨g, 0, none⟩) N N) (timOut plusR timesR [] p q 0)) := by rw [eg]; exact R0
  have HNB := Lib.hid hNb
  clear R0 hmk eg hs hNb
  go_loopw [6, 7, 8, 9, 27] (fun _ _ _ _ i wr => ∃ j : Nat, j ≤ m ∧ i = .int .i64 j ∧ Hid (TRow wr w.heap.size (.slice (some ⟨g, 0, none⟩) N N) (timOut plusR timesR [] p q j)) ∧ Hid (Below w.heap.size w wr)) (fun _ _ _ _ i _ => m - (intOf i).toNat)
  case atStart => exact ⟨0, Nat.zero_le _, rfl, R1, B0⟩
  case round =>
    obtain ⟨i, hi, rfl, hr, hb⟩ := hrel
    by_cases him : i < m
    · obtain ⟨b, off, ux, rfl, hbl, hc, hpx⟩ := HP.out i (by have := EM.out; omega)
      have hca : wr.cell? ⟨b, off + i, none⟩ = some ux := (hb.out.cell (p := ⟨b, off + i, none⟩) hbl).trans hc
      have hst : timOut plusR timesR [] p q (i + 1) = timIn plusR timesR [] (p[i]?.getD []) (timOut plusR timesR [] p q i) q i q.length := rfl
      have hlen := HL.out i
      have hxl := HRP.out i
      have HRI2 := Lib.hid (fun j => HRI.out (p[i]?.getD []) hxl i j)
      obtain ⟨P, eP⟩ : ∃ P, P = timOut plusR timesR [] p q i := ⟨_, rfl⟩
      obtain ⟨x, ex⟩ : ∃ x, x = p[i]?.getD [] := ⟨_, rfl⟩
      rw [← eP] at hst hlen hr HRI2
      rw [← ex] at hst hpx hxl HRI2
      rw [← EK.out] at hst
      have hr0 : Hid (TRow wr w.heap.size (.slice (some ⟨g, 0, none⟩) N N) (timIn plusR timesR [] x P q i 0)) := hr
      have hi1 : (0 : Int) ≤ (i : Int) ∧ (i : Int) < (m : Int) := by omega
      have HPX := Lib.hid hpx
      obtain ⟨Ax, nx, cx, rfl⟩ : ∃ A0 n0 c0, ux = .slice A0 n0 c0 := by
        obtain ⟨A0, c0, e0, _⟩ := hpx
        exact ⟨A0, _, c0, e0⟩
      have HST := Lib.hid hst
      have HLN := Lib.hid hlen
      have HXL := Lib.hid hxl
      clear hst hlen hr eP ex hc hbl hpx hxl
      go_wp2
      go_loopw [8, 9, 34] (fun _ _ i2 wr => ∃ j : Nat, j ≤ k ∧ i2 = .int .i64 j ∧ Hid (TRow wr w.heap.size (.slice (some ⟨g, 0, none⟩) N N) (timIn plusR timesR [] x P q i j)) ∧ Hid (Below w.heap.size w wr)) (fun _ _ i2 _ => k - (intOf i2).toNat)
      case atStart => exact ⟨0, Nat.zero_le _, rfl, hr0, hb⟩
      case round =>
        obtain ⟨j, hj, rfl, hr, hb⟩ := hrel
        by_cases hjk : j < k
        · obtain ⟨b2, off2, uy, rfl, hbl, hc, hpy⟩ := HQ.out j (by have := EK.out; omega)
          have hcb : wr.cell? ⟨b2, off2 + j, none⟩ = some uy := (hb.out.cell (p := ⟨b2, off2 + j, none⟩) hbl).trans hc
          have hlen : (timIn plusR timesR [] x P q i j).length = N := by rw [timIn_length]; exact HLN.out
          obtain ⟨s, es⟩ : ∃ s, s = i + j := ⟨_, rfl⟩
          have hsum : (i : Int) + (j : Int) = (s : Int) := by omega
          have hsN : s < N := by have := HNB.out; omega
          have hi2 : (0 : Int) ≤ (j : Int) ∧ (j : Int) < (k : Int) := by omega
          have hi3 : (0 : Int) ≤ (s : Int) ∧ (s : Int) < (N : Int) := by omega
          have HSW := Lib.hid (wrap_sum i j s es (Nat.le_trans (Nat.le_of_lt hsN) (Nat.le_trans HNB.out.1 (by decide))))
          obtain ⟨uu, hcl, hpu, hnu, hcf⟩ := hr.out.at s (by rw [hlen]; exact hsN)
          have hst2 : timIn plusR timesR [] x P q i (j + 1) = (timIn plusR timesR [] x P q i j).set (i + j) (plusR ((timIn plusR timesR [] x P q i j)[i + j]?.getD []) (timesR x (q[j]?.getD []))) := rfl
          rw [← es] at hst2
          have hyl := HRQ.out j
          have hul := HRI2.out j s
          obtain ⟨y, ey⟩ : ∃ y, y = q[j]?.getD [] := ⟨_, rfl⟩
          obtain ⟨u, eu⟩ : ∃ u, u = (timIn plusR timesR [] x P q i j)[s]?.getD [] := ⟨_, rfl⟩
          rw [← ey, ← eu] at hst2
          rw [← ey] at hpy hyl
          rw [← eu] at hpu hul
          obtain ⟨Ay, ny, cy, rfl⟩ : ∃ A0 n0 c0, uy = .slice A0 n0 c0 := by
            obtain ⟨A0, c0, e0, _⟩ := hpy
            exact ⟨A0, _, c0, e0⟩
          obtain ⟨Au, nu, cu, rfl⟩ : ∃ A0 n0 c0, uu = .slice A0 n0 c0 := by
            obtain ⟨A0, c0, e0, _⟩ := hpu
            exact ⟨A0, _, c0, e0⟩
          have hxl := HXL.out
          have HT := Lib.hid (timesR_any (.slice Ax nx cx) (.slice Ay ny cy) x y (by omega) (by omega) wr.drew ((HPX.out.below hb.out).below (Below.refl wr.heap.size wr).drew) ((hpy.below hb.out).below (Below.refl wr.heap.size wr).drew))
          have htl := timesR_length x y
          obtain ⟨xy, exy⟩ : ∃ xy, xy = timesR x y := ⟨_, rfl⟩
          rw [← exy] at hst2 HT htl
          have HA : Hid (∀ (w1 : World) (v1 : Value), Below wr.heap.size wr w1 → PV w1 v1 xy → Calls Tryd.prog 123 #[.slice Au nu cu, v1] w1 (GaveP w1 (plusR u xy))) := Lib.hid (fun w1 v1 hb1 hv1 => plusR_any _ v1 u xy (by omega) (by omega) w1 (hpu.below hb1) hv1)
          have hcd : wr.drew.cell? ⟨g, s, none⟩ = some (.slice Au nu cu) := hcl
          have hgl := (hr.out.lt g rfl).2
          have hmT : ∀ w : World, (method 225 69 (.slice Ax nx cx) "loop.example/graphpieces/impl.times").run Tryd.prog w = .ok (124, .slice Ax nx cx) w := fun _ => by kernel_rfl
          have hmP : ∀ w : World, (method 225 69 (.slice Au nu cu) "loop.example/graphpieces/impl.plus").run Tryd.prog w = .ok (123, .slice Au nu cu) w := fun _ => by kernel_rfl
          have HST2 := Lib.hid hst2
          have HLN2 := Lib.hid hlen
          have HSN := Lib.hid hsN
          have HCL := Lib.hid hcl
          have HGL := Lib.hid hgl
          clear hst2 exy ey eu hc hbl hlen es hpy hpu hnu hxl hyl hul htl hcf hsum hcl
          obtain ⟨hsw, hsk⟩ := HSW.out
          clear HSW
          go_wp2
          go_region_law (first
            | (go_simp; go_at_call 124; refine HT.out.mono ?_; rintro e w3 ⟨v3, rfl, hv3, hb3, hf3⟩
               obtain ⟨A3, n3, c3, rfl⟩ : ∃ A0 n0 c0, v3 = .slice A0 n0 c0 := by
                 obtain ⟨A0, c0, e0, _⟩ := hv3
                 exact ⟨A0, _, c0, e0⟩
               have hbw3 : Below wr.heap.size wr w3 := (Below.refl _ wr).drew.trans hb3
               have hx3 : w3.cell? ⟨g, s, none⟩ = some (.slice Au nu cu) := (hbw3.cell (p := ⟨g, s, none⟩) HGL.out).trans HCL.out
               have HA3 := Lib.hid (HA.out w3 _ hbw3 hv3)
               clear hv3 hb3 hf3)
            | (go_simp; go_at_call 123; refine HA3.out.mono ?_; rintro e w4 ⟨v4, rfl, hv4, hb4, hf4⟩
               obtain ⟨A4, n4, c4, rfl⟩ : ∃ A0 n0 c0, v4 = .slice A0 n0 c0 := by
                 obtain ⟨A0, c0, e0, _⟩ := hv4
                 exact ⟨A0, _, c0, e0⟩
               have hbw4 : Below wr.heap.size wr w4 := hbw3.trans (hb4.mono hbw3.size)
               have hx4 : w4.cell? ⟨g, s, none⟩ = some (.slice Au nu cu) := (hbw4.cell (p := ⟨g, s, none⟩) HGL.out).trans HCL.out
               have hr4 := hr.out.below hbw4
               obtain ⟨_, _, _, _, hcf4⟩ := hr4.at s (by rw [HLN2.out]; exact HSN.out)
               have hne4 : (Value.slice A4 n4 c4).ownBlock ≠ some g := fun e => absurd (hf4 g e) (Nat.not_le_of_lt (Nat.lt_of_lt_of_le HGL.out hbw3.size))
               have hr5 : Hid (TRow (w4.setCell ⟨g, s, none⟩ (.slice A4 n4 c4)) w.heap.size (.slice (some ⟨g, 0, none⟩) N N) (timIn plusR timesR [] x P q i (j + 1))) := Lib.hid (by
                 rw [HST2.out]
                 exact hr4.set s _ _ hv4 hne4)
               have hb5 := Lib.hid ((hb.out.trans (hbw4.mono hb.out.size)).setCell (p := ⟨g, s, none⟩) hgw (.slice A4 n4 c4))
               clear hv4 hb4 hf4 hr4 hne4))
          all_goals go_wp2
          all_goals go_roundw
          all_goals first
            | exact ⟨j + 1, hjk, by go_num, hr5, hb5⟩
            | (clear hsw hsk; simp [intOf]; omega)
        · have hje : j = k := by omega
          subst hje
          have hr2 : Hid (TRow wr w.heap.size (.slice (some ⟨g, 0, none⟩) N N) (timOut plusR timesR [] p q (i + 1))) := Lib.hid (by rw [HST.out]; exact hr.out)
          clear hr
          go_wp2
          go_roundw
          case rel => exact ⟨i + 1, by omega, by go_num, hr2, hb⟩
          case measure => simp [intOf]; omega
    · have hie : i = m := by omega
      subst hie
      have hfin := Lib.hid hr.out.tv
      have hlm : Hid ((timOut plusR timesR [] p q i).length = N) := Lib.hid (HL.out i)
      clear hr
      go_wp2
      go_ret
      exact ⟨_, rfl, hfin.out, hb.out⟩
theorem timesT_any (v u : Value) (p q : List (List Int)) (hp1 : p.length ≤ 500) (hq1 : q.length ≤ 500) (hrp : RowsLe p 120) (hrq : RowsLe q 120) (w : World) (hp : TV w v p) (hq : TV w u q) :
    Calls Tryd.prog 93 #[v, u] w (GaveT w (timesT p q)) := by
  have hp' := hp
  have hq' := hq
  obtain ⟨A, c, rfl, _, _⟩ := hp'
  obtain ⟨A', c', rfl, _, _⟩ := hq'
  unfold timesT timesG
  by_cases hz : p.length = 0 ∨ q.length = 0
  · rw [if_pos hz]; exact timesT_none A A' c c' p q hz w
  · rw [if_neg hz]; exact timesT_some A A' c c' p q hp1 hq1 (by omega) (by omega) hrp hrq w hp hq
end Go.Proofs.YtdhpamemkkfhhaaDoor
