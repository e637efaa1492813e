/- The numbers of walks by the model: l4Walks makes the rows of the numbers of walks. -/
import Derived.Test.YtogmfbhnnnoipaaDoorWalkMath
import Derived.Test.YtogmfbhnnnoipaaDoorBaseB
import Derived.Test.YtogmfbhnnnoipaaDoorBaseA
namespace Go.Proofs.YtogmfbhnnnoipaaDoor
open Go Go.RowKit
set_option linter.unusedVariables false
set_option maxRecDepth 100000

def rowN (L : List Int) (i v : Nat) : List Nat := (List.range L.length).map fun j => wk L i v j
def npart (L : List Int) (r : Nat → Nat) (a b : Nat) : List Nat := (List.range L.length).map fun j => sumN (fun x => r x * bt L x j) a + (if j < b then r a * bt L a j else 0)
theorem rowN_length (L : List Int) (i v : Nat) : (rowN L i v).length = L.length := by simp [rowN]
theorem npart_length (L : List Int) (r : Nat → Nat) (a b : Nat) : (npart L r a b).length = L.length := by simp [npart]
theorem rowN_get (L : List Int) (i v : Nat) {j : Nat} (hj : j < L.length) : (rowN L i v)[j]?.getD 0 = wk L i v j := by simp [rowN, hj]
theorem npart_get (L : List Int) (r : Nat → Nat) (a b : Nat) {j : Nat} (hj : j < L.length) : (npart L r a b)[j]?.getD 0 = sumN (fun x => r x * bt L x j) a + (if j < b then r a * bt L a j else 0) := by simp [npart, hj]
theorem eq_of_getD {xs ys : List Nat} (hl : xs.length = ys.length) (h : ∀ j, j < xs.length → xs[j]?.getD 0 = ys[j]?.getD 0) : xs = ys := by
  apply List.ext_getElem? 
  intro j
  by_cases hj : j < xs.length
  · have h1 := h j hj
    rw [List.getElem?_eq_getElem hj, List.getElem?_eq_getElem (by omega)] at h1 ⊢
    simpa using h1
  · rw [List.getElem?_eq_none (by omega), List.getElem?_eq_none (by omega)]
theorem getD_set (xs : List Nat) (i j x : Nat) (hi : i < xs.length) : (xs.set i x)[j]?.getD 0 = if j = i then x else xs[j]?.getD 0 := by
  rw [List.getElem?_set]
  by_cases h : i = j
  · subst h; simp [hi]
  · rw [if_neg h, if_neg (fun e => h e.symm)]
theorem rowN_zero (L : List Int) {v : Nat} (hv : v < L.length) : (List.replicate L.length 0).set v 1 = rowN L 0 v := by
  refine eq_of_getD (by simp [rowN]) fun j hj => ?_
  rw [List.length_set, List.length_replicate] at hj
  rw [getD_set _ _ _ _ (by simpa using hv), rowN_get L 0 v hj, wk]
  simp [hj]
theorem npart_start (L : List Int) (r : Nat → Nat) : npart L r 0 0 = List.replicate L.length 0 := by
  refine eq_of_getD (by simp [npart]) fun j hj => ?_
  rw [npart_length] at hj
  rw [npart_get L r 0 0 hj]
  simp [sumN, hj]
theorem npart_set (L : List Int) (r : Nat → Nat) (a b : Nat) (hb : b < L.length) : (npart L r a b).set b (sumN (fun x => r x * bt L x b) a + r a * bt L a b) = npart L r a (b + 1) := by
  refine eq_of_getD (by simp [npart]) fun j hj => ?_
  rw [List.length_set, npart_length] at hj
  rw [getD_set _ _ _ _ (by rw [npart_length]; exact hb), npart_get L r a b hj, npart_get L r a (b + 1) hj]
  by_cases h : j = b
  · subst h; rw [if_pos rfl, if_pos (by omega)]
  · rw [if_neg h]
    by_cases h2 : j < b
    · rw [if_pos h2, if_pos (by omega)]
    · rw [if_neg h2, if_neg (by omega)]
theorem npart_row (L : List Int) (r : Nat → Nat) (a : Nat) : npart L r a L.length = npart L r (a + 1) 0 := by
  refine eq_of_getD (by simp [npart]) fun j hj => ?_
  rw [npart_length] at hj
  rw [npart_get L r _ _ hj, npart_get L r _ _ hj, if_pos hj, if_neg (by omega), sumN]
  omega
theorem npart_end (L : List Int) (i v : Nat) : npart L (wk L i v) L.length 0 = rowN L (i + 1) v := by
  refine eq_of_getD (by simp [npart, rowN]) fun j hj => ?_
  rw [npart_length] at hj
  rw [npart_get L _ _ _ hj, rowN_get L _ _ hj, if_neg (by omega), wk]
  omega
def walkRows (L : List Int) (k v : Nat) : List (List Nat) := (List.range v).map fun u => rowN L k u
theorem walkRows_succ (L : List Int) (k v : Nat) : walkRows L k (v + 1) = walkRows L k v ++ [rowN L k v] := by simp [walkRows, List.range_succ]
theorem walkRows_length (L : List Int) (k v : Nat) : (walkRows L k v).length = v := by simp [walkRows]
theorem walkRows_get (L : List Int) (k v : Nat) {u : Nat} (hu : u < v) : (walkRows L k v)[u]?.getD [] = rowN L k u := by simp [walkRows, hu]

set_option maxHeartbeats 4000000 in
theorem specWalks_seen (A : Option Addr) (c : Nat) (L : List Int) (hg : IsGraph L) (k : Nat) (hk : k ≤ 12) (w : World) (h : Seen w A L) :
    Calls Tryd.prog 42 #[.slice A L.length c, .int .i64 k] w fun e w' => ∃ v, e = .returned v ∧ Row2 w' w.heap.size v (walkRows L k L.length) ∧ Below w.heap.size w w' := by
  have h1 := hg.1
  have h6 := hg.2.1
  obtain ⟨n, hn⟩ : ∃ n, n = L.length := ⟨_, rfl⟩
  have hmk := run_make_ints n (by omega)
  have HMR := Lib.hid (fun w => madeW_row w n (by omega))
  have HMB := Lib.hid (fun w => madeW_below w n)
  have HMS := Lib.hid (fun w => madeW_size w n)
  rw [← hn] at h1 h6 ⊢
  have HN := Lib.hid hn
  have H := Lib.hid h
  have HG := Lib.hid hg
  obtain ⟨B, eB⟩ : ∃ B, B = w.heap.size := ⟨_, rfl⟩
  have EB := Lib.hid eB
  have R0 : Hid (Row2 (w.alloc (.cells #[] 22)) w.heap.size (.slice (some ⟨w.heap.size, 0, none⟩) 0 0) (walkRows L k 0)) := Lib.hid
    ⟨[], World.ownsRow_lit (base := w.heap.size) (e := 22) (size := 1) w #[] 0 (Nat.le_refl _) (by unfold maxLen; omega) rfl, by simp, fun k hk => absurd hk (by simp [walkRows])⟩
  have B0 := Lib.hid ((Below.refl w.heap.size w).alloc (Nat.le_refl _) (.cells #[] 22))
  clear h hg hn eB
  go_enter Tryd.func42, Tryd.ntmps42
  go_wp2
  rw [← EB.out] at R0 B0 ⊢
  go_loopw [5, 6] (fun o i wr => ∃ v : Nat, v ≤ n ∧ i = .int .i64 v ∧ Hid (Row2 wr B o (walkRows L k v)) ∧ Hid (Below B w wr)) (fun _ i _ => n - (intOf i).toNat)
  case atStart => exact ⟨0, Nat.zero_le _, rfl, R0, B0⟩
  case round =>
    obtain ⟨v, hv, rfl, hr, hb⟩ := hrel
    by_cases hlt : v < n
    · have hnx := walkRows_succ L k v
      have HNX := Lib.hid hnx
      have hvn : (0 : Int) ≤ (v : Int) ∧ (v : Int) < (n : Int) := by omega
      obtain ⟨Wi, eWi⟩ : ∃ Wi : World, Wi = wr := ⟨_, rfl⟩
      rw [← eWi] at hr hb ⊢
      have HSI := Lib.hid hb.out.size
      have q0 : v < (ints (List.replicate n 0)).length := by rw [ints_length, List.length_replicate]; exact hlt
      have m0 := HMR.out Wi
      have c0 := m0.cellAt v q0
      have f0 := m0.frozenAt v q0
      have s0 := m0.set v q0 1
      have e0 : (ints (List.replicate n 0)).set v 1 = ints (rowN L 0 v) := by
        rw [show (1 : Int) = ((1 : Nat) : Int) from rfl, ints_set, HN.out, rowN_zero L (by rw [← HN.out]; exact hlt)]
      rw [e0] at s0
      have S0 := Lib.hid s0
      have SB := Lib.hid ((HMB.out Wi).setCell (p := ⟨Wi.heap.size, v, none⟩) (Nat.le_refl _) (.int .i64 1))
      obtain ⟨y0, ey0⟩ : ∃ y0, y0 = (ints (List.replicate n 0))[v]?.getD 0 := ⟨_, rfl⟩
      rw [← ey0] at c0
      clear hnx q0 m0 s0 e0 ey0 eWi R0 B0
      go_wp2
      refine at_world (P := fun W => Code.wp _ _ _ _ W) _ ?_
      intro W1 hW1
      rw [← hW1] at S0 SB
      clear hW1 c0 f0
      obtain ⟨M, eM⟩ : ∃ M, M = Wi.heap.size := ⟨_, rfl⟩
      rw [← eM] at S0 SB HSI ⊢
      have EM := Lib.hid eM
      clear eM
      go_loopw [7, 8] (fun o i wr => ∃ i' rb rc : Nat, i' ≤ k ∧ i = .int .i64 i' ∧ o = .slice (some ⟨rb, 0, none⟩) n rc ∧ Hid (Row wr M (.slice (some ⟨rb, 0, none⟩) n rc) (ints (rowN L i' v))) ∧ Hid (Below M Wi wr)) (fun _ i _ => k - (intOf i).toNat)
      case atStart => exact ⟨0, M, n, Nat.zero_le _, rfl, rfl, S0, SB⟩
      case round =>
        obtain ⟨i', rb, rc, hi', rfl, rfl, hq, hqb⟩ := hrel
        by_cases hlk : i' < k
        · have hki : (i' : Int) < (k : Int) := by omega
          obtain ⟨Wm, eWm⟩ : ∃ Wm : World, Wm = wr := ⟨_, rfl⟩
          rw [← eWm] at hq hqb ⊢
          have HQ := Lib.hid hq.out
          have hrbl := (hq.out.lt rb rfl).2
          have HRB := Lib.hid hrbl
          have m0 := HMR.out Wm
          have e0 : ints (List.replicate n 0) = ints (npart L (wk L i' v) 0 0) := by rw [npart_start, HN.out]
          rw [e0] at m0
          have N0 := Lib.hid m0
          have NB := Lib.hid (HMB.out Wm)
          clear m0 e0 eWm hrbl
          go_wp2
          refine at_world (P := fun W => Code.wp _ _ _ _ W) _ ?_
          intro W2 hW2
          rw [← hW2] at N0 NB
          clear hW2
          obtain ⟨g, eg⟩ : ∃ g, g = Wm.heap.size := ⟨_, rfl⟩
          rw [← eg] at N0 NB HRB ⊢
          have EG := Lib.hid eg
          clear eg
          go_loopw [10] (fun i wr => ∃ a : Nat, a ≤ n ∧ i = .int .i64 a ∧ Hid (Row wr g (.slice (some ⟨g, 0, none⟩) n n) (ints (npart L (wk L i' v) a 0))) ∧ Hid (Below g Wm wr)) (fun i _ => n - (intOf i).toNat)
          case atStart => exact ⟨0, Nat.zero_le _, rfl, N0, NB⟩
          case round =>
            obtain ⟨a, ha, rfl, hp, hpb⟩ := hrel
            by_cases hla : a < n
            · obtain ⟨wo, rfl⟩ : ∃ wo : World, wo = wr := ⟨_, rfl⟩
              have hna : (0 : Int) ≤ (a : Int) ∧ (a : Int) < (n : Int) := by omega
              go_wp2
              go_loopw [11] (fun i wr => ∃ b : Nat, b ≤ n ∧ i = .int .i64 b ∧ Hid (Row wr g (.slice (some ⟨g, 0, none⟩) n n) (ints (npart L (wk L i' v) a b))) ∧ Hid (Below g Wm wr)) (fun i _ => n - (intOf i).toNat)
              case atStart => exact ⟨0, Nat.zero_le _, rfl, hp, hpb⟩
              case round =>
                obtain ⟨b, hb', rfl, hp, hpb⟩ := hrel
                by_cases hlb : b < n
                · obtain ⟨blk, off, rfl, hbl, hcL⟩ := H.out a (by have := HN.out; omega)
                  have hin := (HG.out.2.2 a (by have := HN.out; omega)).1
                  rw [ent_int hin] at hcL
                  have hXl := ent_lt hin
                  have h64 := two_le (n := L.length) (by have := HN.out; omega)
                  obtain ⟨bit, ebit, hbit, f1⟩ := and_facts (ent L a) b (by omega)
                  have e1 : bt L a b = bit := by unfold bt; exact ebit.symm
                  have hLn : n = L.length := HN.out
                  have hcg : wr.cell? ⟨blk, off + a, none⟩ = some (.int .i64 (ent L a)) :=
                    (hpb.out.cell (p := ⟨blk, off + a, none⟩) (by show blk < g; have := EG.out; have := hqb.out.size; have := HSI.out; have := EM.out; have := EB.out; have := hb.out.size; omega)).trans
                      ((hqb.out.cell (p := ⟨blk, off + a, none⟩) (by show blk < M; have := HSI.out; have := EM.out; have := EB.out; have := hb.out.size; omega)).trans
                        ((hb.out.cell (p := ⟨blk, off + a, none⟩) (by show blk < B; have := EB.out; omega)).trans hcL))
                  have hcr : wr.cell? ⟨rb, a, none⟩ = some (.int .i64 ((wk L i' v a : Nat) : Int)) := by
                    rw [hpb.out.cell (p := ⟨rb, a, none⟩) HRB.out, HQ.out.cellAt a (by rw [ints_length, rowN_length]; omega), ints_get, rowN_get L _ _ (by omega)]
                  have hlen : b < (ints (npart L (wk L i' v) a b)).length := by rw [ints_length, npart_length]; omega
                  have hcn : wr.cell? ⟨g, b, none⟩ = some (.int .i64 ((sumN (fun x => wk L i' v x * bt L x b) a : Nat) : Int)) := by
                    rw [hp.out.cellAt b hlen, ints_get, npart_get L _ _ _ (by omega), if_neg (by omega), Nat.add_zero]
                  have hfn : wr.frozen? ⟨g, b, none⟩ = false := hp.out.frozenAt b hlen
                  have hs1 : sumN (fun x => wk L i' v x * bt L x b) a ≤ a * 2176782336 := sumN_le fun x _ => by
                    have h1 := wk_small L (by omega) i' v x (by omega)
                    have h2 := bt_le L x b
                    exact Nat.le_trans (Nat.mul_le_mul h1 h2) (by omega)
                  have hw1 := wk_small L (by omega) i' v a (by omega)
                  have hst := npart_set L (wk L i' v) a b (by omega)
                  rw [e1] at hst
                  obtain ⟨r, er⟩ : ∃ r, r = wk L i' v a := ⟨_, rfl⟩
                  obtain ⟨s, es⟩ : ∃ s, s = sumN (fun x => wk L i' v x * bt L x b) a := ⟨_, rfl⟩
                  obtain ⟨p, epp⟩ : ∃ p, p = r * bit := ⟨_, rfl⟩
                  have hp1 : p ≤ 2176782336 := by
                    rw [epp]
                    exact Nat.le_trans (Nat.mul_le_mul (by rw [er]; exact hw1) hbit) (by omega)
                  have f2 : (r : Int) * (bit : Int) = (p : Int) := by rw [epp]; simp
                  rw [← er] at hcr hst
                  rw [← es] at hcn hst hs1
                  rw [← epp] at hst
                  have f3 : wrap64 ((s : Int) + (p : Int)) = ((s + p : Nat) : Int) := by rw [wrap_id (by omega) (by omega)]; omega
                  have f4 : wrap64 (p : Int) = (p : Int) := wrap_id (by omega) (by omega)
                  have HV : Hid (wrap64 ((s : Int) + wrap64 (p : Int)) = ((s + p : Nat) : Int)) := Lib.hid (by rw [f4, f3])
                  have rs := hp.out.set b hlen ((s + p : Nat) : Int)
                  rw [ints_set, hst] at rs
                  have RS := Lib.hid rs
                  obtain ⟨X, eX⟩ : ∃ X, X = ent L a := ⟨_, rfl⟩
                  rw [← eX] at hcg f1
                  have hnb : (0 : Int) ≤ (b : Int) ∧ (b : Int) < (n : Int) := by omega
                  have hb64 : b < 64 := by omega
                  have BS := Lib.hid ((hpb.out.drew).setCell (p := ⟨g, b, none⟩) (Nat.le_refl _) (.int .i64 ((s + p : Nat) : Int)))
                  have hcd : wr.drew.cell? ⟨g, b, none⟩ = some (.int .i64 ((s : Nat) : Int)) := hcn
                  have hfd : wr.drew.frozen? ⟨g, b, none⟩ = false := hfn
                  clear hbl hin hXl h64 ebit e1 hLn hcL hlen hs1 hw1 hst er es epp rs eX
                  go_wp2
                  go_still_tail 20, (by kernel_rfl)
                  change wpList _ _ _ _ _ wr.drew
                  clear f1 f2 f3 f4 hp1 hcg hcr hcn hfn hbit
                  go_wp2
                  clear hcd hfd
                  go_roundw
                  case rel => exact ⟨b + 1, by omega, by go_num, Lib.hid (by rw [HV.out]; exact Row.drewN RS.out 1), Lib.hid (by rw [HV.out]; exact BS.out)⟩
                  case measure => simp [intOf]; omega
                · have hbn : b = n := by omega
                  subst hbn
                  have hp2 := hp.out
                  rw [HN.out, npart_row, ← HN.out] at hp2
                  have HP2 := Lib.hid hp2
                  clear hp2
                  go_wp2
                  go_roundw
                  case rel => exact ⟨a + 1, by omega, by go_num, HP2, hpb⟩
                  case measure => simp [intOf]; omega
            · have han : a = n := by omega
              subst han
              have hp2 := hp.out
              rw [HN.out, npart_end, ← HN.out] at hp2
              have HP2 := Lib.hid (Row.mono hp2 (by have := EG.out; have := hqb.out.size; have := HSI.out; have := EM.out; omega : M ≤ g))
              have HB2 := Lib.hid (hqb.out.trans (hpb.out.mono (by have := EG.out; have := hqb.out.size; have := EM.out; omega)))
              clear hp2
              go_wp2
              go_roundw
              case rel => exact ⟨i' + 1, g, _, by omega, by go_num, rfl, HP2, HB2⟩
              case measure => simp [intOf]; omega
        · have hik : i' = k := by omega
          subst hik
          have r2 := Lib.hid (hr.out.below (by rw [← EM.out]; exact hqb.out))
          have rw1 := Lib.hid (Row.mono hq.out (by have := HSI.out; have := EB.out; omega : B ≤ M))
          have hsz : B ≤ wr.heap.size := (by have := hqb.out.size; have := EM.out; have := HSI.out; have := EB.out; omega)
          have HSZ := Lib.hid hsz
          have HBB := Lib.hid (hb.out.trans (hqb.out.mono (by have := HSI.out; have := EB.out; omega)))
          clear hsz
          go_wp2_with (at_builtin; refine app_rows rfl (.tmp 66) (.tmp 68) rfl wr B u5 (.slice (some ⟨rb, 0, none⟩) n rc) (walkRows L i' v) (rowN L i' v) rfl rfl r2.out ⟨rw1.out, by simp⟩ HSZ.out (by rw [walkRows_length]; omega) ?_; intro v3 w3 hv3 hb3
                       have HV3 := Lib.hid hv3
                       have BV3 := Lib.hid (HBB.out.trans hb3)
                       clear hv3 hb3)
          go_roundw
          case rel => exact ⟨v + 1, by omega, by go_num, Lib.hid (by rw [HNX.out]; exact HV3.out), BV3⟩
          case measure => simp [intOf]; omega
    · have hvn : v = n := by omega
      subst hvn
      go_wp2
      go_ret
      rw [← EB.out]
      exact ⟨_, rfl, hr.out, hb.out⟩
end Go.Proofs.YtogmfbhnnnoipaaDoor
