/- The program's rowsOf: a table's numbers in rows of equal length. -/
import Derived.Test.YtdhpamemkkfhhaaDoorRowsKit
import Derived.Test.YtdhpamemkkfhhaaDoorLeadsFn
import Derived.Test.YtdhpamemkkfhhaaDoorBaseA
namespace Go.Proofs.YtdhpamemkkfhhaaDoor
open Go Go.RowKit
set_option linter.unusedVariables false
set_option maxRecDepth 100000

theorem rank_size_all : allN (fun C => decide (rkT C ≤ pcf 15 C ∧ rkT C ≤ 4)) 1024 = true := by decide +kernel
theorem rank_size {C : Nat} (hC : C < 1024) : rkT C ≤ pcf 15 C ∧ rkT C ≤ 4 := of_decide_eq_true (allN_spec rank_size_all C hC)
def zTo (N : Nat) (Z : List Int) : Nat → List (List Int)
  | 0 => List.replicate N []
  | k + 1 => (zTo N Z k).set k Z
theorem zTo_length (N : Nat) (Z : List Int) (k : Nat) : (zTo N Z k).length = N := by
  induction k with
  | zero => simp [zTo]
  | succ k ih => unfold zTo; rw [List.length_set, ih]
theorem zTo_get (N : Nat) (Z : List Int) (k j : Nat) (hj : j < N) : (zTo N Z k)[j]? = some (if j < k then Z else []) := by
  induction k with
  | zero => simp [zTo, hj]
  | succ k ih =>
    unfold zTo
    rw [List.getElem?_set, zTo_length]
    by_cases h : k = j
    · subst h
      rw [if_pos rfl, if_pos hj, if_pos (by omega)]
    · rw [if_neg h, ih]
      by_cases h2 : j < k
      · rw [if_pos h2, if_pos (by omega)]
      · rw [if_neg h2, if_neg (by omega)]
theorem zTo_all (N : Nat) (Z : List Int) : zTo N Z N = List.replicate N Z := by
  refine List.ext_getElem? fun j => ?_
  by_cases hj : j < N
  · rw [zTo_get N Z N j hj, if_pos hj, List.getElem?_replicate, if_pos hj]
  · rw [List.getElem?_eq_none (by rw [zTo_length]; omega), List.getElem?_eq_none (by rw [List.length_replicate]; omega)]
theorem infoRows : (Tryd.prog.info? 22).map (fun i => (i.zero, i.size, i.bytes)) = some (some (.slice none 0 0), 1, 24) := by kernel_rfl
theorem run_make_rows (n : Nat) (hn : n ≤ 1048576) : ∀ w : World, (Instr.makeSlice 28 (.int .i64 (n : Int)) (.int .i64 (n : Int))).run Tryd.prog w = .ok (.slice (some ⟨w.heap.size, 0, none⟩) n n) (madeV 22 (.slice none 0 0) w n) :=
  run_make_v _ _ (.slice none 0 0) 24 Tryd.underlying28 infoRows (by decide) rfl n hn
/-- How calls that make a list of lists end. -/
def GaveR (w : World) (T : List (List Int)) (e : Ending) (w' : World) : Prop := ∃ v, e = .returned v ∧ R2 w' w.heap.size v T ∧ Below w.heap.size w w'

set_option maxHeartbeats 8000000 in
theorem rowsOf_any (A : Option Addr) (c : Nat) (L : List Int) (ht : IsT L) (v : Value) (T : List (List Int)) (h1 : T.length ≤ rkT (codeOf L) + 1) (h2 : RowsLe T (pcf 15 (codeOf L) - rkT (codeOf L) + 1)) (w : World) (h : Seen w A L) (hT : Tab w) (hv : TV w v T) :
    Calls Tryd.prog 67 #[.slice A L.length c, v] w (GaveR w (rowsP (rkT (codeOf L)) (pcf 15 (codeOf L)) T)) := by
  have hTl := hT.lt
  have hCl := code_ltN ht
  have hle := codesN_le L.length
  have hrs := rank_size (C := codeOf L) (by omega)
  have hpl := pcf_le 15 (codeOf L)
  have HRK := Lib.hid (callsIn_wide.1 (rank_in A c L ht.1 w h hT))
  rw [rankP_code ht] at HRK
  have HSZ : Hid (∀ w1, Below w.heap.size w w1 → Calls Tryd.prog 90 #[.slice A L.length c] w1 (NumB w1 (pcf 15 (codeOf L)))) := Lib.hid (fun w1 hb => callsIn_wide.1 (implSize_in A c L ht.1 w1 (h.below hb)))
  obtain ⟨n, hn⟩ : ∃ n, n = L.length := ⟨_, rfl⟩
  rw [← hn] at HRK HSZ ⊢
  obtain ⟨r, er⟩ : ∃ r, r = rkT (codeOf L) := ⟨_, rfl⟩
  obtain ⟨s, es⟩ : ∃ s, s = pcf 15 (codeOf L) := ⟨_, rfl⟩
  rw [← er] at h1 h2 hrs HRK ⊢
  rw [← es] at h2 hrs HSZ hpl ⊢
  obtain ⟨N, eN⟩ : ∃ N, N = r + 1 := ⟨_, rfl⟩
  obtain ⟨m, em⟩ : ∃ m, m = s - r + 1 := ⟨_, rfl⟩
  obtain ⟨d, ed⟩ : ∃ d, d = s - r := ⟨_, rfl⟩
  have a1 : (r : Int) + 1 = (N : Int) := by omega
  have a2 : (s : Int) - (r : Int) = (d : Int) := by omega
  have a3 : (d : Int) + 1 = (m : Int) := by omega
  have hNm : N ≤ 5 ∧ m ≤ 16 := by omega
  have HD : Hid (rowsP r s T = ftTo (List.replicate N (List.replicate m 0)) T T.length) := Lib.hid (by unfold rowsP zeroT; rw [eN, em])
  rw [← eN] at h1
  rw [← em] at h2
  have H1 := Lib.hid h1
  have H2 := Lib.hid h2
  have HV := Lib.hid hv
  have hmk := run_make_rows N (by omega)
  have hmi := run_make_ints m (by omega)
  have hms : ∀ x, (madeW x m).heap.size = x.heap.size + 1 := fun x => madeW_size x m
  obtain ⟨Av, nv, cv, rfl⟩ : ∃ A n c, v = .slice A n c := by
    obtain ⟨A0, c0, e0, _⟩ := hv
    exact ⟨A0, _, c0, e0⟩
  have HNV : Hid (nv = T.length) := Lib.hid (by
    obtain ⟨A0, c0, e0, _⟩ := hv
    injection e0)
  clear ht h hT hv hn er es eN em ed hCl hle h1 h2 hrs hpl
  go_enter Tryd.func67, Tryd.ntmps67
  go_wp2_with fail
  refine HRK.out.mono ?_
  rintro e w1 ⟨rfl, b1⟩
  go_wp2_with fail
  have R0 := madeV_row 22 (.slice none 0 0) w1 N (by omega)
  have B0 := madeV_below 22 (.slice none 0 0) w1 N
  obtain ⟨w2, ew2⟩ : ∃ w2, w2 = madeV 22 (.slice none 0 0) w1 N := ⟨_, rfl⟩
  obtain ⟨g, eg⟩ : ∃ g, g = w1.heap.size := ⟨_, rfl⟩
  rw [← ew2] at R0 B0 ⊢
  rw [← eg] at R0 ⊢
  have hgw : w.heap.size ≤ g := by rw [eg]; exact b1.size
  have b2 := Lib.hid (b1.trans (B0.mono b1.size))
  have r2 : Hid (R2 w2 w.heap.size (.slice (some ⟨g, 0, none⟩) N N) (zTo N (List.replicate m 0) 0)) := Lib.hid (by
    refine ⟨_, R0.mono hgw, by rw [List.length_replicate, zTo_length], fun k hk => ?_, fun i j gg hi hj _ e => ?_⟩
    · rw [zTo_length] at hk
      show Row _ _ _ ((List.replicate N ([] : List Int))[k]?.getD [])
      rw [List.getElem?_replicate, if_pos hk, List.getElem?_replicate, if_pos hk]
      exact World.ownsRow_nil _ _ _ _
    · rw [zTo_length] at hi
      rw [List.getElem?_replicate, if_pos hi] at e
      cases e)
  clear R0 B0 b1 ew2 eg hmk
  go_wp2
  go_loopw [7, 19] (fun _ i wr => ∃ k : Nat, k ≤ N ∧ i = .int .i64 k ∧ Hid (R2 wr w.heap.size (.slice (some ⟨g, 0, none⟩) N N) (zTo N (List.replicate m 0) k)) ∧ Hid (Below w.heap.size w wr)) (fun _ i _ => N - (intOf i).toNat)
  case atStart => exact ⟨0, Nat.zero_le _, rfl, r2, b2⟩
  case round =>
    obtain ⟨k, hk, rfl, hr, hb⟩ := hrel
    by_cases hkN : k < N
    · have HSW := Lib.hid (HSZ.out wr hb.out)
      have hi1 : (0 : Int) ≤ (k : Int) ∧ (k : Int) < (N : Int) := by omega
      go_wp2_with fail
      refine HSW.out.mono ?_
      rintro e w3 ⟨rfl, hb3⟩
      have hr3 := hr.out.below hb3
      have M0 := madeW_row w3 m (by omega)
      have M1 := madeW_below w3 m
      have hr4 := hr3.below M1
      obtain ⟨u, hcu, _, hcf⟩ := hr4.at k (by rw [zTo_length]; exact hkN)
      have hw4 : w.heap.size ≤ w3.heap.size := Nat.le_trans hb.out.size hb3.size
      have hr5 : Hid (R2 ((madeW w3 m).setCell ⟨g, k, none⟩ (.slice (some ⟨w3.heap.size, 0, none⟩) m m)) w.heap.size (.slice (some ⟨g, 0, none⟩) N N) (zTo N (List.replicate m 0) (k + 1))) := Lib.hid (by
        show R2 _ _ _ ((zTo N (List.replicate m 0) k).set k (List.replicate m 0))
        refine hr4.put k _ _ ?_ (fun b hb5 j hj y hy e => ?_)
        · have e : ints (List.replicate m 0) = List.replicate m 0 := by simp [ints]
          rw [← e]
          exact M0.mono hw4
        · have hbe : b = w3.heap.size := by injection hb5 with e5; exact e5.symm
          obtain ⟨u2, hc2, hrow2, _⟩ := hr3.at j hj
          obtain ⟨u4, hc4, _, _⟩ := hr4.at j hj
          have hgl := (hr3.lt g rfl).2
          have hsame : (madeW w3 m).cell? ⟨g, j, none⟩ = w3.cell? ⟨g, j, none⟩ := M1.cell (p := ⟨g, j, none⟩) hgl
          rw [hsame, hc2] at hy
          have : u2 = y := Option.some.inj hy
          subst this
          have := (hrow2.lt b e).2
          omega)
      have hb5 := Lib.hid (((hb.out.trans (hb3.mono hb.out.size)).trans (M1.mono hw4)).setCell (p := ⟨g, k, none⟩) hgw (.slice (some ⟨w3.heap.size, 0, none⟩) m m))
      clear hr3 hb3 M0 M1 hr4 hw4 hr hb
      go_wp2
      go_roundw
      case rel => exact ⟨k + 1, by omega, by go_num, hr5, hb5⟩
      case measure => simp [intOf]; omega
    · have hke : k = N := by omega
      subst hke
      have hr0 : Hid (R2 wr w.heap.size (.slice (some ⟨g, 0, none⟩) k k) (ftTo (List.replicate k (List.replicate m 0)) T 0)) := Lib.hid (by
        have h := hr.out
        rw [zTo_all] at h
        exact h)
      clear hr a1 a2 a3 hmi hms
      go_wp2
      go_loopw [8, 9, 10, 11, 34] (fun _ _ _ _ i wr => ∃ q : Nat, q ≤ nv ∧ i = .int .i64 q ∧ Hid (R2 wr w.heap.size (.slice (some ⟨g, 0, none⟩) k k) (ftTo (List.replicate k (List.replicate m 0)) T q)) ∧ Hid (Below w.heap.size w wr)) (fun _ _ _ _ i _ => nv - (intOf i).toNat)
      case atStart => exact ⟨0, Nat.zero_le _, rfl, hr0, hb⟩
      case round =>
        obtain ⟨i, hi, rfl, hr, hb⟩ := hrel
        by_cases hin : i < nv
        · have hiT : i < T.length := by have := HNV.out; omega
          have hex : ∃ b off u, Av = some ⟨b, off, none⟩ ∧ b < w.heap.size ∧ w.cell? ⟨b, off + i, none⟩ = some u ∧ PV w u (T[i]?.getD []) := by
            obtain ⟨A0, c0, e0, _, h0, _⟩ := HV.out
            injection e0 with e1 e2 e3
            rw [e1]
            exact h0 i hiT
          obtain ⟨b0, off0, u0, rfl, hbl0, hc0, hp0⟩ := hex
          have hca : wr.cell? ⟨b0, off0 + i, none⟩ = some u0 := (hb.out.cell (p := ⟨b0, off0 + i, none⟩) hbl0).trans hc0
          have hrow := H2.out i
          have hik : i < k := by have := H1.out; omega
          have hF0 : (ftTo (List.replicate k (List.replicate m 0)) T i)[i]?.getD [] = (List.replicate m 0 : List Int) := by
            rw [ftTo_get _ _ _ _ (Nat.le_refl i), List.getElem?_replicate, if_pos hik]
            rfl
          have hst : ftTo (List.replicate k (List.replicate m 0)) T (i + 1) = (ftTo (List.replicate k (List.replicate m 0)) T i).set i (frTo ((ftTo (List.replicate k (List.replicate m 0)) T i)[i]?.getD []) (T[i]?.getD []) (T[i]?.getD []).length) := rfl
          rw [hF0] at hst
          have hFl : (ftTo (List.replicate k (List.replicate m 0)) T i).length = k := by rw [ftTo_length, List.length_replicate]
          obtain ⟨F, eF⟩ : ∃ F, F = ftTo (List.replicate k (List.replicate m 0)) T i := ⟨_, rfl⟩
          obtain ⟨row, erow⟩ : ∃ row, row = T[i]?.getD [] := ⟨_, rfl⟩
          rw [← eF] at hst hF0 hFl hr
          rw [← erow] at hst hrow hp0
          obtain ⟨Ar, cr, rfl, _, hsr, _⟩ := hp0
          obtain ⟨ρ, eρ⟩ : ∃ ρ, ρ = row.length := ⟨_, rfl⟩
          rw [← eρ] at hst hrow hca
          have HR2 := Lib.hid (hsr)
          have ER := Lib.hid eρ
          have hr1 : Hid (R2 wr w.heap.size (.slice (some ⟨g, 0, none⟩) k k) (F.set i (frTo (List.replicate m 0) row 0))) := Lib.hid (by
            have e : F.set i (frTo (List.replicate m 0) row 0) = F := by
              show F.set i (List.replicate m 0) = F
              rw [← hF0]
              have hl : i < F.length := by omega
              rw [List.getElem?_eq_getElem hl]
              simp
            rw [e]
            exact hr.out)
          have hi1 : (0 : Int) ≤ (i : Int) ∧ (i : Int) < (nv : Int) := by omega
          have hi2 : (0 : Int) ≤ (i : Int) ∧ (i : Int) < (k : Int) := by omega
          have HST := Lib.hid hst
          have HFL := Lib.hid hFl
          clear hst hF0 hFl hr eF erow eρ hsr hc0 hbl0 hiT
          go_wp2
          go_loopw [10, 11, 41] (fun _ _ i2 wr => ∃ j : Nat, j ≤ ρ ∧ i2 = .int .i64 j ∧ Hid (R2 wr w.heap.size (.slice (some ⟨g, 0, none⟩) k k) (F.set i (frTo (List.replicate m 0) row j))) ∧ Hid (Below w.heap.size w wr)) (fun _ _ i2 _ => ρ - (intOf i2).toNat)
          case atStart => exact ⟨0, Nat.zero_le _, rfl, hr1, hb⟩
          case round =>
            obtain ⟨j, hj, rfl, hr, hb⟩ := hrel
            by_cases hjr : j < ρ
            · obtain ⟨b3, off3, rfl, hbl3, hc3⟩ := HR2.out j (by have := ER.out; omega)
              have hcn : wr.cell? ⟨b3, off3 + j, none⟩ = some (.int .i64 (row[j]?.getD 0)) := (hb.out.cell (p := ⟨b3, off3 + j, none⟩) hbl3).trans hc3
              have hSl : i < (F.set i (frTo (List.replicate m 0) row j)).length := by rw [List.length_set, HFL.out]; exact hik
              have hSi : (F.set i (frTo (List.replicate m 0) row j))[i]?.getD [] = frTo (List.replicate m 0) row j := by
                rw [List.getElem?_set_self (by rw [HFL.out]; exact hik)]; rfl
              obtain ⟨u, hcu, hru, hfu⟩ := hr.out.at i hSl
              rw [hSi] at hru
              have hfl : (frTo (List.replicate m 0) row j).length = m := by rw [frTo_length, List.length_replicate]
              have hjm : j < m := by omega
              obtain ⟨bb, cc, rfl⟩ : ∃ bb cc, u = .slice (some ⟨bb, 0, none⟩) m cc := by
                rcases hru.2 with ⟨_, h0⟩ | ⟨gg, cap, cur, h0, _⟩
                · omega
                · exact ⟨gg, cap, by rw [h0, hfl]⟩
              have hf2 := hru.frozenAt j (by rw [hfl]; exact hjm)
              have hcx := hru.cellAt j (by rw [hfl]; exact hjm)
              have hset := hr.out.set2 i hSl hcu j (by rw [hSi, hfl]; exact hjm) (row[j]?.getD 0)
              rw [hSi, List.set_set] at hset
              have hgb : w.heap.size ≤ bb := (hru.lt bb rfl).1
              obtain ⟨x, ex⟩ : ∃ x, x = row[j]?.getD 0 := ⟨_, rfl⟩
              have hset2 : Hid (R2 (wr.setCell ⟨bb, j, none⟩ (.int .i64 x)) w.heap.size (.slice (some ⟨g, 0, none⟩) k k) (F.set i (frTo (List.replicate m 0) row (j + 1)))) := Lib.hid (by rw [ex]; exact hset)
              rw [← ex] at hcn
              have hb2 := Lib.hid (hb.out.setCell (p := ⟨bb, j, none⟩) hgb (.int .i64 x))
              have hi3 : (0 : Int) ≤ (j : Int) ∧ (j : Int) < (ρ : Int) := by omega
              have hi4 : (0 : Int) ≤ (j : Int) ∧ (j : Int) < (m : Int) := by omega
              clear hset hSi hru hfl ex hc3 hbl3 hr hb hSl hfu
              go_wp2
              go_roundw
              case rel => exact ⟨j + 1, by omega, by go_num, hset2, hb2⟩
              case measure => simp [intOf]; omega
            · have hje : j = ρ := by omega
              subst hje
              have hr4 : Hid (R2 wr w.heap.size (.slice (some ⟨g, 0, none⟩) k k) (ftTo (List.replicate k (List.replicate m 0)) T (i + 1))) := Lib.hid (by rw [HST.out]; exact hr.out)
              clear hr
              go_wp2
              go_roundw
              case rel => exact ⟨i + 1, by omega, by go_num, hr4, hb⟩
              case measure => simp [intOf]; omega
        · have hie : i = nv := by omega
          subst hie
          have hfin : GaveR w (rowsP r s T) (.returned (.slice (some ⟨g, 0, none⟩) k k)) wr := by
            rw [HD.out, ← HNV.out]
            exact ⟨_, rfl, hr.out, hb.out⟩
          have HF := Lib.hid hfin
          clear hfin hr hb
          go_wp2
          go_ret
          exact HF.out
end Go.Proofs.YtdhpamemkkfhhaaDoor
