/- The model's l2Perms: all names, in order. -/
import Derived.Test.YtamabhdbcmjbjaaDoorBaseG
import Derived.Test.YtamabhdbcmjbjaaDoorRows2
import Derived.Test.YtamabhdbcmjbjaaDoorBaseA
namespace Go.Proofs.YtamabhdbcmjbjaaDoor
open Go.RowKit
set_option linter.unusedVariables false
set_option maxRecDepth 100000

/-- The names that go on from P by less than y. -/
def extTo (P : List Nat) (y : Nat) : List (List Nat) := ((List.range y).filter fun x => !P.contains x).map fun v => P ++ [v]
theorem extTo_zero (P : List Nat) : extTo P 0 = [] := rfl
theorem extTo_end (P : List Nat) (n : Nat) : extTo P n = ext n P := rfl
theorem extTo_succ (P : List Nat) (y : Nat) : extTo P (y + 1) = extTo P y ++ (if P.contains y = true then [] else [P ++ [y]]) := by
  unfold extTo
  rw [List.range_succ, List.filter_append, List.map_append]
  by_cases h : y ∈ P <;> simp [h]
theorem extTo_length (P : List Nat) (y : Nat) : (extTo P y).length ≤ y := by
  have := List.length_filter_le (fun x => !P.contains x) (List.range y)
  simpa [extTo] using this
theorem take_contains {P : List Nat} {q : Nat} (hq : q < P.length) (y : Nat) : (P.take (q + 1)).contains y = ((P.take q).contains y || (at_ P q == y)) := by
  rw [List.take_succ_eq_append_getElem hq]
  have e : at_ P q = P[q] := by unfold at_; rw [List.getElem?_eq_getElem hq]; rfl
  rw [e, Bool.eq_iff_iff, Bool.or_eq_true, List.contains_iff_mem, List.contains_iff_mem, List.mem_append, List.mem_singleton, beq_iff_eq]
  exact or_congr Iff.rfl ⟨Eq.symm, Eq.symm⟩
/-- The next ones, of the first j. -/
def nextTo (n : Nat) (Ls : List (List Nat)) (j : Nat) : List (List Nat) := (Ls.take j).flatMap (ext n)
theorem nextTo_zero (n : Nat) (Ls : List (List Nat)) : nextTo n Ls 0 = [] := by simp [nextTo]
theorem nextTo_succ (n : Nat) (Ls : List (List Nat)) (j : Nat) (h : j < Ls.length) : nextTo n Ls (j + 1) = nextTo n Ls j ++ ext n (Ls[j]?.getD []) := by
  unfold nextTo
  rw [List.take_succ_eq_append_getElem h, List.flatMap_append, List.getElem?_eq_getElem h]
  simp
theorem nextTo_all (n : Nat) (Ls : List (List Nat)) : nextTo n Ls Ls.length = Ls.flatMap (ext n) := by simp [nextTo]
theorem nextTo_length (n : Nat) (Ls : List (List Nat)) (j : Nat) : (nextTo n Ls j).length ≤ Ls.length * n := by
  have h1 := flat_length n (Ls.take j)
  have h2 : (Ls.take j).length ≤ Ls.length := by simp; omega
  exact Nat.le_trans h1 (Nat.mul_le_mul_right n h2)

set_option maxHeartbeats 4000000 in
theorem perms_any (n : Nat) (h1 : 1 ≤ n) (h6 : n ≤ 6) (w : World) :
    Calls Tryd.prog 54 #[.int .i64 n] w fun e w' => ∃ v, e = .returned v ∧ Row2 w' w.heap.size v (permsTo n n) ∧ Below w.heap.size w w' := by
  obtain ⟨B, eB⟩ : ∃ B, B = w.heap.size := ⟨_, rfl⟩
  have EB := Lib.hid eB
  have hrow : RowS (w.alloc (.cells #[] 3)) w.heap.size (.slice (some ⟨w.heap.size, 0, none⟩) 0 0) (ints []) := by
    exact ⟨World.ownsRow_lit (base := w.heap.size) (e := 3) (size := 1) w #[] 0 (Nat.le_refl _) (by unfold maxLen; omega) rfl, by simp⟩
  have hr2 : Row2 ((w.alloc (.cells #[] 3)).alloc (.cells #[.slice (some ⟨w.heap.size, 0, none⟩) 0 0] 23)) w.heap.size (.slice (some ⟨w.heap.size + 1, 0, none⟩) 1 1) (permsTo n 0) := by
    have h := World.ownsRow_lit (base := w.heap.size) (e := 23) (size := 1) (w.alloc (.cells #[] 3)) #[.slice (some ⟨w.heap.size, 0, none⟩) 0 0] 1 (by simp) (by unfold maxLen; omega) rfl
    rw [World.size_alloc] at h
    refine ⟨[.slice (some ⟨w.heap.size, 0, none⟩) 0 0], h, by simp, fun k hk => ?_⟩
    have hk0 : k = 0 := by simp [permsTo, extK] at hk; exact hk
    subst hk0
    exact ⟨Row.alloc hrow.1 _, by simp⟩
  have HR2 := Lib.hid hr2
  have B0 := Lib.hid (((Below.refl w.heap.size w).alloc (Nat.le_refl _) (.cells #[] 3)).alloc (by simp) (.cells #[.slice (some ⟨w.heap.size, 0, none⟩) 0 0] 23))
  clear hrow hr2 eB
  go_enter Tryd.func54, Tryd.ntmps54
  go_wp2
  rw [← EB.out] at HR2 B0 ⊢
  go_loopw [3, 4] (fun o i wr => ∃ k : Nat, k ≤ n ∧ i = .int .i64 k ∧ Hid (Row2 wr B o (permsTo n k)) ∧ Hid (Below B w wr)) (fun _ i _ => n - (intOf i).toNat)
  case atStart => exact ⟨0, Nat.zero_le _, rfl, HR2, B0⟩
  case round =>
    obtain ⟨k, hk, rfl, hr, hb⟩ := hrel
    by_cases hlt : k < n
    · have hlen := perms_length n k h6 (by omega)
      obtain ⟨ob, oc, eo, hob⟩ := hr.out.shape
      obtain ⟨Ls, eLs⟩ : ∃ Ls, Ls = permsTo n k := ⟨_, rfl⟩
      rw [← eLs] at eo hr hlen
      have hnx := permsTo_succ n k
      rw [← eLs] at hnx
      have HNX := Lib.hid hnx
      have hnames := perms_names n k
      rw [← eLs] at hnames
      have HNM := Lib.hid hnames
      obtain ⟨m, em⟩ : ∃ m, m = Ls.length := ⟨_, rfl⟩
      rw [← em] at eo hlen
      subst eo
      have EM := Lib.hid em
      have HR := Lib.hid hr.out
      have HB := Lib.hid hb.out
      obtain ⟨Wi, eWi⟩ : ∃ Wi : World, Wi = wr := ⟨_, rfl⟩
      rw [← eWi] at HR HB hob ⊢
      have R1 : Hid (Row2 (Wi.alloc (.cells #[] 23)) Wi.heap.size (.slice (some ⟨Wi.heap.size, 0, none⟩) 0 0) (nextTo n Ls 0)) := Lib.hid (by
        rw [nextTo_zero]
        exact ⟨[], World.ownsRow_lit (base := Wi.heap.size) (e := 23) (size := 1) Wi #[] 0 (Nat.le_refl _) (by unfold maxLen; omega) rfl, by simp, fun k hk => absurd hk (by simp)⟩)
      have B1 := Lib.hid ((Below.refl Wi.heap.size Wi).alloc (Nat.le_refl _) (.cells #[] 23))
      clear hr hb eLs em hnx hnames eWi HR2 B0
      go_wp2
      go_loopw [5, 6] (fun o i wr => ∃ j : Nat, j ≤ m ∧ i = .int .i64 j ∧ Hid (Row2 wr Wi.heap.size o (nextTo n Ls j)) ∧ Hid (Below Wi.heap.size Wi wr)) (fun _ i _ => m - (intOf i).toNat)
      case atStart => exact ⟨0, Nat.zero_le _, rfl, R1, B1⟩
      case round =>
        obtain ⟨j, hj, rfl, hr, hb⟩ := hrel
        by_cases hlj : j < m
        · have hjL : j < Ls.length := by have := EM.out; omega
          obtain ⟨pv, hpc, hpr⟩ := Row2.at (by have h0 := HR.out; rw [EM.out] at h0; exact h0) hjL
          obtain ⟨P, eP⟩ : ∃ P, P = Ls[j]?.getD [] := ⟨_, rfl⟩
          have hPm : P ∈ Ls := by rw [eP, List.getElem?_eq_getElem hjL]; exact List.getElem_mem _
          have hPk := HNM.out P hPm
          rw [← eP] at hpr
          obtain ⟨pb, pc, epv⟩ := hpr.shape
          rw [ints_length, hPk.1] at epv
          subst epv
          have hPl := hPk.1
          have hpb : pb < Wi.heap.size := by
            rcases hpr.1.2 with ⟨h0, _⟩ | ⟨g, cap, cur, h0, _, h3, _⟩
            · cases h0
            · injection h0 with e1; injection e1 with e1; injection e1 with e1; subst e1; exact (Array.getElem?_eq_some_iff.1 h3).1
          have hcells : ∀ q, q < k → Wi.cell? ⟨pb, q, none⟩ = some (.int .i64 (at_ P q : Nat)) := fun q hq => by
            have h0 := hpr.1.cellAt q (by rw [ints_length]; omega)
            rw [h0, ints_at (by omega)]
          have HPL := Lib.hid hPl
          have HCL := Lib.hid hcells
          have HPC := Lib.hid hpc
          have EP := Lib.hid eP
          have hjm : (0 : Int) ≤ (j : Int) ∧ (j : Int) < (m : Int) := by omega
          clear hpr hPk hPm hPl hcells hpc eP
          go_wp2
          go_loopw [5, 7] (fun o i wr => ∃ y : Nat, y ≤ n ∧ i = .int .i64 y ∧ Hid (Row2 wr Wi.heap.size o (nextTo n Ls j ++ extTo P y)) ∧ Hid (Below Wi.heap.size Wi wr)) (fun _ i _ => n - (intOf i).toNat)
          case atStart => exact ⟨0, Nat.zero_le _, rfl, Lib.hid (by rw [extTo_zero, List.append_nil]; exact hr.out), hb⟩
          case round =>
            obtain ⟨y, hy, rfl, hr, hb⟩ := hrel
            by_cases hly : y < n
            · have rC : wr.cell? ⟨ob, j, none⟩ = some (.slice (some ⟨pb, 0, none⟩) k pc) := (hb.out.cell (p := ⟨ob, j, none⟩) hob).trans HPC.out
              go_wp2
              go_loop [8, 9] (fun b t => ∃ q : Nat, q ≤ k ∧ t = .int .i64 q ∧ b = .bool ((P.take q).contains y)) (fun _ t => k - (intOf t).toNat)
              case atStart => exact ⟨0, Nat.zero_le _, rfl, by simp⟩
              case round =>
                obtain ⟨q, hq, rfl, rfl⟩ := hrel
                by_cases hlq : q < k
                · have rP : wr.cell? ⟨pb, q, none⟩ = some (.int .i64 (at_ P q : Nat)) := (hb.out.cell (p := ⟨pb, q, none⟩) hpb).trans (HCL.out q hlq)
                  have hqk : (0 : Int) ≤ (q : Int) ∧ (q : Int) < (k : Int) := by omega
                  have htc := take_contains (P := P) (q := q) (by rw [HPL.out]; exact hlq) y
                  obtain ⟨z, ez⟩ : ∃ z, z = at_ P q := ⟨_, rfl⟩
                  rw [← ez] at rP htc
                  obtain ⟨b0, eb0⟩ : ∃ b0, b0 = (P.take q).contains y := ⟨_, rfl⟩
                  rw [← eb0] at htc
                  rw [← eb0]
                  have HTC := Lib.hid htc
                  clear htc eb0 ez
                  cases b0
                  · have hzy : ((z : Int) == (y : Int)) = (z == y) := by rw [Bool.eq_iff_iff]; simp; omega
                    go_wp2
                    go_round
                    case rel => exact ⟨q + 1, by omega, by go_num, by rw [HTC.out]; simp⟩
                    case measure => simp [intOf]; omega
                  · go_wp2
                    go_round
                    case rel => exact ⟨q + 1, by omega, by go_num, by rw [HTC.out]; simp⟩
                    case measure => simp [intOf]; omega
                · have hqe : q = k := by omega
                  subst hqe
                  have hct : (P.take q).contains y = P.contains y := by rw [show P.take q = P by rw [← HPL.out]; exact List.take_length]
                  rw [hct]
                  have hxs := extTo_succ P y
                  obtain ⟨b0, eb0⟩ : ∃ b0, b0 = P.contains y := ⟨_, rfl⟩
                  rw [← eb0] at hxs
                  rw [← eb0]
                  have HXS := Lib.hid hxs
                  clear hxs eb0 hct
                  cases b0
                  · have hcp : ∀ t, t < (ints P).length → (wr.alloc (.cells #[] 3)).cell? ⟨pb, t, none⟩ = some (.int .i64 ((ints P)[t]?.getD 0)) := fun t ht => by
                      rw [ints_length] at ht
                      rw [ints_at ht, ← HCL.out t (by rw [← HPL.out]; exact ht)]
                      exact ((hb.out.alloc hb.out.size (.cells #[] 3)).cell (p := ⟨pb, t, none⟩) hpb)
                    have HCP := Lib.hid hcp
                    have RE : Hid (RowS (wr.alloc (.cells #[] 3)) wr.heap.size (.slice (some ⟨wr.heap.size, 0, none⟩) 0 0) []) := Lib.hid ⟨World.ownsRow_lit (base := wr.heap.size) (e := 3) (size := 1) wr #[] 0 (Nat.le_refl _) (by unfold maxLen; omega) rfl, by simp⟩
                    have BE := Lib.hid ((Below.refl wr.heap.size wr).alloc (Nat.le_refl _) (.cells #[] 3))
                    have HIP : Hid ((ints P).length = q) := Lib.hid (by rw [ints_length]; exact HPL.out)
                    have hsz : (wr.alloc (.cells #[] 3)).heap.size = wr.heap.size + 1 := by simp
                    have HSZ := Lib.hid hsz
                    have hLn := Lib.hid (Nat.mul_le_mul (show Ls.length ≤ 46656 by have := EM.out; omega) h6)
                    have rC2 : (wr.alloc (.cells #[] 3)).cell? ⟨ob, j, none⟩ = some (.slice (some ⟨pb, 0, none⟩) q pc) := (hb.out.alloc hb.out.size (.cells #[] 3)).cell (p := ⟨ob, j, none⟩) hob |>.trans HPC.out
                    clear hcp hsz
                    go_wp2_with (first
                      | (at_builtin; refine app_list rfl (.tmp 53) (.tmp 57) rfl (wr.alloc (.cells #[] 3)) wr.heap.size (.slice (some ⟨wr.heap.size, 0, none⟩) 0 0) [] (ints P) pb pc q HIP.out rfl rfl RE.out HCP.out (by rw [HSZ.out]; omega) (by rw [HIP.out]; simp; omega) ?_; intro v1 w1 hv1 hg1
                         rw [List.nil_append] at hv1
                         obtain ⟨vb, vc, e1⟩ := hv1.shape
                         rw [HIP.out] at e1
                         subst e1
                         have HV1 := Lib.hid hv1
                         have BW1 := Lib.hid (BE.out.grown hg1 (by rw [HSZ.out]; omega) (fun r e => by have e2 : some wr.heap.size = some r := e; injection e2; omega))
                         clear hv1 hg1)
                      | (at_builtin; refine app_list rfl (.tmp 58) (.tmp 60) rfl (w1.alloc (.cells #[.int .i64 (y : Int)] 3)) wr.heap.size (.slice (some ⟨vb, 0, none⟩) q vc) (ints P) [(y : Int)] w1.heap.size 1 1 rfl rfl rfl ⟨Row.alloc HV1.out.1 _, by simp⟩ (fun t ht => by
                           have ht0 : t = 0 := by simpa using ht
                           subst ht0
                           exact (Boxed.new w1 3 (.int .i64 (y : Int))).cell) (by have := BW1.out.size; simp; omega) (by rw [HIP.out]; simp; omega) ?_; intro v2 w2 hv2 hg2
                         have BW2 := Lib.hid ((BW1.out.alloc BW1.out.size (.cells #[.int .i64 (y : Int)] 3)).grown hg2 (by have := BW1.out.size; simp; omega) (fun r e => (World.ownsRow.lt HV1.out.1 r e).1))
                         obtain ⟨ub, uc, e2⟩ := hv2.shape
                         rw [List.length_append, HIP.out, List.length_singleton] at e2
                         subst e2
                         rw [show ints P ++ [(y : Int)] = ints (P ++ [y]) by simp [ints]] at hv2
                         have HV2 := Lib.hid hv2
                         clear hv2 hg2)
                      | (at_builtin; refine app_rows rfl (.tmp 52) (.tmp 62) rfl w2 Wi.heap.size u5 (.slice (some ⟨ub, 0, none⟩) (q + 1) uc) (nextTo n Ls j ++ extTo P y) (P ++ [y]) rfl rfl (hr.out.below BW2.out) ⟨Row.mono HV2.out.1 hb.out.size, by simp⟩ (by have := BW2.out.size; have := hb.out.size; omega) (by rw [List.length_append]; have := nextTo_length n Ls j; have := extTo_length P y; have := hLn.out; omega) ?_; intro v3 w3 hv3 hb3
                         have HV3 := Lib.hid hv3
                         have BV3 := Lib.hid ((hb.out.trans (BW2.out.mono hb.out.size)).trans hb3)
                         clear hv3 hb3))
                    go_roundw
                    case rel => exact ⟨y + 1, by omega, by go_num, Lib.hid (by rw [HXS.out]; simpa using HV3.out), BV3⟩
                    case measure => simp [intOf]; omega
                  · go_wp2
                    go_roundw
                    case rel => exact ⟨y + 1, by omega, by go_num, Lib.hid (by rw [HXS.out]; simpa using hr.out), hb⟩
                    case measure => simp [intOf]; omega
            · have hye : y = n := by omega
              subst hye
              go_wp2
              go_roundw
              case rel => exact ⟨j + 1, by omega, by go_num, Lib.hid (by rw [nextTo_succ _ _ _ hjL, ← EP.out, ← extTo_end]; exact hr.out), hb⟩
              case measure => simp [intOf]; omega
        · have hje : j = m := by omega
          subst hje
          go_wp2
          go_roundw
          case rel => exact ⟨k + 1, by omega, by go_num, Lib.hid (by rw [HNX.out, ← nextTo_all, ← EM.out]; exact hr.out.mono (by have := HB.out.size; have := EB.out; omega)), Lib.hid (HB.out.trans (hb.out.mono (by have := HB.out.size; have := EB.out; omega)))⟩
          case measure => simp [intOf]; omega
    · have hke : k = n := by omega
      subst hke
      go_wp2
      go_ret
      exact ⟨_, rfl, by rw [← EB.out]; exact hr.out, by rw [← EB.out]; exact hb.out⟩
#print axioms perms_any
end Go.Proofs.YtamabhdbcmjbjaaDoor
