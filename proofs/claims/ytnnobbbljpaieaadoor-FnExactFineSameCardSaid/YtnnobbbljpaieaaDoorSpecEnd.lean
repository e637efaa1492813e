/- The model's l5Kinds and l5End. -/
import Derived.Deep.LoopGhost
import Derived.Test.YtnnobbbljpaieaaDoorKindsMath
import Derived.Test.YtnnobbbljpaieaaDoorStepFn
namespace Go.Proofs.YtnnobbbljpaieaaDoor
open Go Go.RowKit
set_option linter.unusedVariables false
set_option maxRecDepth 100000

theorem kinds_succ (n : Nat) (C : List Int) : kinds (n + 1) C = kinds n C + (if firstB C n = true then 1 else 0) := by
  unfold kinds
  rw [List.range_succ, List.countP_append]
  simp [List.countP_cons]
theorem first_step (C : List Int) (v i : Nat) : ((List.range (i + 1)).all fun u => hue C u != hue C v) = (((List.range i).all fun u => hue C u != hue C v) && (hue C i != hue C v)) := by
  rw [List.range_succ, List.all_append]
  simp

set_option maxHeartbeats 4000000 in
theorem specKinds_seen (A : Option Addr) (c : Nat) (C : List Int) (hl : C.length ≤ 12) (w : World) (h : Seen w A C) :
    Calls Tryd.prog 23 #[.slice A C.length c] w fun e w' => e = .returned (.int .i64 ((kinds C.length C : Nat) : Int)) ∧ ∃ q, w' = w.drewN q := by
  obtain ⟨n, hn⟩ : ∃ n, n = C.length := ⟨_, rfl⟩
  rw [← hn] at hl ⊢
  have HN := Lib.hid hn
  have H := Lib.hid h
  clear hn h
  go_enter Tryd.func23, Tryd.ntmps23
  go_wp2
  go_loopw [3, 4] (fun s i wr => ∃ v q : Nat, v ≤ n ∧ i = .int .i64 v ∧ s = .int .i64 ((kinds v C : Nat) : Int) ∧ wr = w.drewN q) (fun _ i _ => n - (intOf i).toNat)
  case atStart => exact ⟨0, 0, Nat.zero_le _, rfl, rfl, rfl⟩
  case round =>
    obtain ⟨v, q, hv, rfl, rfl, ewr⟩ := hrel
    have hkl := kinds_le v C
    obtain ⟨kv, ekv⟩ : ∃ kv, kv = kinds v C := ⟨_, rfl⟩
    rw [← ekv] at hkl ⊢
    have EKV := Lib.hid ekv
    have EWR := Lib.hid ewr
    clear ekv ewr
    by_cases hlt : v < n
    · obtain ⟨blk, off, rfl, hbl, hcv⟩ := H.out v (by have := HN.out; omega)
      have hcvw : wr.cell? ⟨blk, off + v, none⟩ = some (.int .i64 (C[v]?.getD 0)) := by rw [EWR.out]; exact hcv
      obtain ⟨y, ey⟩ : ∃ y, y = C[v]?.getD 0 := ⟨_, rfl⟩
      rw [← ey] at hcvw
      have EY := Lib.hid (show hue C v = y from ey.symm)
      clear hcv ey hbl
      obtain ⟨wo, rfl⟩ : ∃ wo : World, wo = wr := ⟨_, rfl⟩
      have hv1 : (0 : Int) ≤ (v : Int) ∧ (v : Int) < (n : Int) := by omega
      go_wp2
      go_loopw [5, 6] (fun f i wr => ∃ j q : Nat, j ≤ v ∧ i = .int .i64 j ∧ f = .bool ((List.range j).all fun u => hue C u != hue C v) ∧ wr = wo.drewN q) (fun _ i _ => v - (intOf i).toNat)
      case atStart => exact ⟨0, 0, Nat.zero_le _, rfl, rfl, rfl⟩
      case round =>
        obtain ⟨j, q2, hj, rfl, rfl, ew2⟩ := hrel
        have EW2 := Lib.hid ew2
        by_cases hjv : j < v
        · obtain ⟨b2, o2, hA2, _, hcj⟩ := H.out j (by have := HN.out; omega)
          have e12 : blk = b2 ∧ off = o2 := by injection hA2 with e; injection e with e1 e2; exact ⟨e1, e2⟩
          obtain ⟨rfl, rfl⟩ := e12
          have hcjw : wr.cell? ⟨blk, off + j, none⟩ = some (.int .i64 (C[j]?.getD 0)) := by rw [ew2, EWR.out]; exact hcj
          have hcv2 : wr.cell? ⟨blk, off + v, none⟩ = some (.int .i64 y) := by rw [ew2]; exact hcvw
          obtain ⟨x, ex⟩ : ∃ x, x = C[j]?.getD 0 := ⟨_, rfl⟩
          rw [← ex] at hcjw
          have hst := first_step C v j
          rw [show hue C j = x from ex.symm, EY.out] at hst
          obtain ⟨fr, efr⟩ : ∃ fr, fr = (List.range j).all fun u => hue C u != hue C v := ⟨_, rfl⟩
          rw [← efr]
          rw [EY.out] at efr
          rw [← efr] at hst
          have HST := Lib.hid hst
          have hj1 : (0 : Int) ≤ (j : Int) ∧ (j : Int) < (n : Int) := by omega
          clear hst ex efr hcj hA2 ew2
          cases fr with
          | true =>
            by_cases hxy : x = y
            · have hb : (x != y) = false := by simp [hxy]
              have HB := Lib.hid hb
              clear hxy
              go_wp2
              go_quiet (fail)
              go_wp2
              go_roundw
              case rel => exact ⟨j + 1, q2 + _, by omega, by go_num, by rw [EY.out, HST.out, HB.out]; rfl, by rw [EW2.out, World.drewN_drewN]⟩
              case measure => simp [intOf]; omega
            · have hb : (x != y) = true := by simp [hxy]
              have HB := Lib.hid hb
              clear hxy
              go_wp2
              go_quiet (fail)
              go_wp2
              go_roundw
              case rel => exact ⟨j + 1, q2 + _, by omega, by go_num, by rw [EY.out, HST.out, HB.out]; rfl, by rw [EW2.out, World.drewN_drewN]⟩
              case measure => simp [intOf]; omega
          | false =>
            go_wp2
            go_region
            all_goals go_wp2
            all_goals go_roundw
            all_goals first
              | exact ⟨j + 1, q2 + 1, by omega, by go_num, by rw [EY.out, HST.out]; rfl, by rw [EW2.out]; rfl⟩
              | (simp [intOf]; omega)
        · have hjv' : v = j := by omega
          subst hjv'
          have hks := kinds_succ v C
          have hfb : firstB C v = (List.range v).all fun u => hue C u != hue C v := rfl
          rw [hfb, ← EKV.out] at hks
          obtain ⟨fr, efr⟩ : ∃ fr, fr = (List.range v).all fun u => hue C u != hue C v := ⟨_, rfl⟩
          rw [← efr] at hks ⊢
          have HKS := Lib.hid hks
          clear hks hfb efr ew2
          cases fr with
          | true =>
            go_wp2
            go_roundw
            case rel => exact ⟨v + 1, q + q2, by omega, by go_num, by rw [HKS.out]; go_num, by rw [EW2.out, EWR.out, World.drewN_drewN]⟩
            case measure => simp [intOf]; omega
          | false =>
            go_wp2
            go_roundw
            case rel => exact ⟨v + 1, q + q2, by omega, by go_num, by rw [HKS.out]; rfl, by rw [EW2.out, EWR.out, World.drewN_drewN]⟩
            case measure => simp [intOf]; omega
    · have hvn : n = v := by omega
      subst hvn
      go_wp2
      go_ret
      exact ⟨by rw [EKV.out]; rfl, q, EWR.out⟩

set_option maxHeartbeats 4000000 in
theorem specEnd_seen (A A' : Option Addr) (c c' : Nat) (L C : List Int) (hN : Net L) (hl : C.length = L.length) (w : World) (hA : NearSeen w A (nearL L L.length)) (hC : Seen w A' C) :
    Calls Tryd.prog 13 #[.slice A L.length c, .slice A' L.length c'] w (Gave w (endL L C)) := by
  obtain ⟨n, hn⟩ : ∃ n, n = L.length := ⟨_, rfl⟩
  have h12 := hN.2.1
  have hNE := near_of hN
  have HSTEP := Lib.hid (fun (A' : Option Addr) (c' : Nat) (D : List Int) (hd : D.length = n) (W : World) (hb : Below w.heap.size w W) (hD : Seen W A' D) => by
    have h := specStep_seen A A' c c' (nearL L L.length) D hNE (by rw [nearL_length, hd, hn]) W (hA.below hb) hD
    rw [stepL_finer hN, nearL_length, hd, ← hn] at h
    exact h)
  have HK := Lib.hid (fun (A' : Option Addr) (c' : Nat) (D : List Int) (hd : D.length = n) (W : World) (hD : Seen W A' D) => by
    have h := specKinds_seen A' c' D (by omega) W hD
    rw [hd] at h
    exact h)
  rw [← hn] at h12 hl ⊢
  have HN := Lib.hid hn
  have HL := Lib.hid hl
  have HC := Lib.hid hC
  clear hn hN hA hC hNE hl
  go_enter Tryd.func13, Tryd.ntmps13
  go_wp2
  go_loopg [1] n (fun g s wr => ∃ (D : List Int) (A1 : Option Addr) (c1 : Nat), D.length = n ∧ n - kinds n D ≤ g ∧ s = .slice A1 n c1 ∧ Hid (Seen wr A1 D) ∧ Hid (Below w.heap.size w wr) ∧ Hid (endL L D = endL L C))
  case atStart => exact ⟨C, A', c', HL.out, by omega, rfl, HC, Lib.hid (Below.refl _ _), Lib.hid rfl⟩
  case round =>
    obtain ⟨D, A1, c1, hd, hg, rfl, hs, hb, he⟩ := hrel
    have hst := HSTEP.out A1 c1 D hd wr hb.out hs.out
    have HST := Lib.hid hst
    have HD := Lib.hid hd
    clear hst hd
    go_wp2_with fail
    refine HST.out.mono ?_
    rintro e w1 ⟨v1, rfl, hr1, hb1⟩
    obtain ⟨A2, c2, hv2, hs2⟩ := hr1.seen
    subst hv2
    have hfl : (finerL L D).length = n := by rw [finerL_length, HN.out]
    rw [hfl]
    have hk1 := HK.out A2 c2 (finerL L D) hfl w1 hs2
    have HK1 := Lib.hid hk1
    have HR1 := Lib.hid hr1
    have HB1 := Lib.hid hb1
    have HFL := Lib.hid hfl
    have HS2 := Lib.hid hs2
    clear hk1 hr1 hb1 hfl hs2
    go_wp2_with fail
    refine HK1.out.mono ?_
    rintro e w2 ⟨rfl, d1, rfl⟩
    have hk2 := HK.out A1 c1 D HD.out (w1.drewN d1) (Seen.below (w := wr) hs.out (below_drewN HB1.out d1))
    have HK2 := Lib.hid hk2
    clear hk2
    go_wp2_with fail
    refine HK2.out.mono ?_
    rintro e w3 ⟨rfl, d2, rfl⟩
    have hfk : kinds n D ≤ kinds n (finerL L D) := by rw [HN.out]; exact finer_kinds L D
    have hfn := kinds_le n (finerL L D)
    by_cases hk : kinds n (finerL L D) = kinds n D
    · have hbq : (((kinds n (finerL L D) : Nat) : Int) == ((kinds n D : Nat) : Int)) = true := by rw [hk]; simp
      have hend : endL L C = finerL L D := by rw [← he.out]; exact endL_stop (by rw [← HN.out]; exact hk)
      have HE := Lib.hid hend
      clear hend hk
      go_wp2
      go_ret
      refine ⟨_, rfl, ?_, ?_⟩
      · rw [HE.out]
        have h := (HR1.out.mono hb.out.size).drewN (d1 + d2)
        rw [HFL.out] at h
        exact h
      · exact below_drewN (hb.out.trans (HB1.out.mono hb.out.size)) (d1 + d2)
    · have hbq : (((kinds n (finerL L D) : Nat) : Int) == ((kinds n D : Nat) : Int)) = false := by simp; omega
      have hend : endL L (finerL L D) = endL L C := by rw [← he.out]; exact (endL_go (by rw [← HN.out]; exact hk)).symm
      have HE := Lib.hid hend
      have hgk : n - kinds n (finerL L D) < n - kinds n D := by omega
      have HGK := Lib.hid hgk
      clear hend hk hgk
      go_wp2
      go_roundg (n - kinds n (finerL L D))
      case measure => have := HGK.out; omega
      case rel => exact ⟨finerL L D, A2, c2, HFL.out, Nat.le_refl _, rfl, Lib.hid HS2.out, Lib.hid (below_drewN (hb.out.trans (HB1.out.mono hb.out.size)) (d1 + d2)), HE⟩
end Go.Proofs.YtnnobbbljpaieaaDoor
