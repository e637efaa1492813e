/- The model's l9Steps: the steps from a node of a graph to each other one. -/
import Derived.Test.YtkngijkhhonikaaDoorMidMath
import Derived.Test.YtkngijkhhonikaaDoorBaseG
import Derived.Test.YtkngijkhhonikaaDoorBaseA
import Derived.StillTailTactics
namespace Go.Proofs.YtkngijkhhonikaaDoor
open Go Go.RowKit
set_option linter.unusedVariables false
set_option maxRecDepth 100000

set_option maxHeartbeats 4000000 in
theorem steps_any (A : Option Addr) (c : Nat) (L : List Int) (hg : IsGraph L) (v : Nat) (hv : v < L.length) (w : World) (h : Seen w A L) :
    Calls Tryd.prog 49 #[.slice A L.length c, .int .i64 v] w (Gave w (ints (stepsT L v))) := by
  have h1 := hg.1
  have h6 := hg.2.1
  have hsT : stepsT L v = (List.range L.length).map (otT L v L.length) := rfl
  have hm0 : metT L v 0 = 2 ^ v := rfl
  have hms : ∀ k, metT L v (k + 1) = nxT L (metT L v k) L.length := fun _ => rfl
  obtain ⟨P, _, hP, _, _, p1, p2, _⟩ := shl_facts v (by omega)
  rw [← hP] at hm0
  have HM := Lib.hid fun k => metT_lt hg hv k
  have HX : Hid (∀ k j, j ≤ L.length → nxT L (metT L v k) j < 64) := Lib.hid fun k j hj => nxT_lt (K := 6) (metT_lt hg hv k) (fun u hu => by have h1 := ent_lt (hg.2.2 u hu).1; have := two_le h6; omega) j hj
  have HE : Hid (∀ u, u < L.length → L[u]?.getD 0 = ((ent L u : Nat) : Int) ∧ ent L u < 64) := Lib.hid fun u hu => ⟨ent_int (hg.2.2 u hu).1, by have h1 := ent_lt (hg.2.2 u hu).1; have := two_le h6; omega⟩
  obtain ⟨n, hn⟩ : ∃ n, n = L.length := ⟨_, rfl⟩
  rw [← hn] at h1 h6 hsT hms HX HE hv ⊢
  have hmk := run_make_ints n (by omega)
  have HN := Lib.hid hn
  have H := Lib.hid h
  have HS := Lib.hid hsT
  have HM0 := Lib.hid hm0
  have HMS := Lib.hid hms
  obtain ⟨g, eg⟩ : ∃ g, g = w.heap.size := ⟨_, rfl⟩
  have HG := Lib.hid eg
  have R0 := Lib.hid (madeW_row w n (by omega))
  have B0 := Lib.hid (madeW_below w n)
  have hv64 : v < 64 := by omega
  clear eg hn h hg hsT hm0 hms hP
  go_enter Tryd.func49, Tryd.ntmps49
  go_wp2
  clear hmk
  obtain ⟨w0, hw0⟩ : ∃ w0, w0 = madeW w n := ⟨_, rfl⟩
  rw [← hw0] at R0 B0 ⊢
  rw [← HG.out] at R0 ⊢
  clear hw0 p1 p2
  go_loopw [6, 7, 8, 9, 10] (fun m i _ _ _ wr => ∃ k : Nat, k ≤ n ∧ i = .int .i64 ((k : Int) + 1) ∧ m = .int .i64 (metT L v k : Nat) ∧ Hid (Row wr w.heap.size (.slice (some ⟨g, 0, none⟩) n n) (ints ((List.range n).map (otT L v k)))) ∧ Hid (Below w.heap.size w wr)) (fun _ i _ _ _ _ => n + 1 - (intOf i).toNat)
  case atStart =>
    refine ⟨0, Nat.zero_le _, rfl, by rw [HM0.out], Lib.hid ?_, B0⟩
    have e : (List.range n).map (otT L v 0) = List.replicate n 0 := by
      refine List.ext_getElem (by simp) fun i a b => by simp [otT]
    rw [e, ← HG.out]
    exact R0.out
  case round =>
    obtain ⟨k, hk, rfl, rfl, hr, hb⟩ := hrel
    have hmk64 := HM.out k
    obtain ⟨m, em⟩ : ∃ m, m = metT L v k := ⟨_, rfl⟩
    rw [← em] at hmk64 ⊢
    have EM := Lib.hid em
    clear em
    by_cases hlt : k < n
    · have hd1 : decide ((k : Int) + 1 ≤ (n : Int)) = true := by simp; omega
      go_wp2
      go_loop [8, 9] (fun x i => ∃ j : Nat, j ≤ n ∧ i = .int .i64 j ∧ x = .int .i64 (nxT L m j : Nat)) (fun _ i => n - (intOf i).toNat)
      case atStart => exact ⟨0, Nat.zero_le _, rfl, rfl⟩
      case round =>
        obtain ⟨j, hj, rfl, rfl⟩ := hrel
        have hx64 := HX.out k j hj
        rw [← EM.out] at hx64
        by_cases hjn : j < n
        · obtain ⟨blk, off, rfl, hbl, hc⟩ := H.out j (by have := HN.out; omega)
          obtain ⟨eX, hX⟩ := HE.out j hjn
          rw [eX] at hc
          have hcw : wr.cell? ⟨blk, off + j, none⟩ = some (.int .i64 (ent L j : Nat)) := (hb.out.cell (p := ⟨blk, off + j, none⟩) hbl).trans hc
          have hst : nxT L m (j + 1) = if m / 2 ^ j % 2 = 1 then nxT L m j ||| ent L j else nxT L m j := rfl
          obtain ⟨bit, ebit, hbit, f1⟩ := and_facts m j (by omega)
          rw [← ebit] at hst
          obtain ⟨X, eX'⟩ : ∃ X, X = ent L j := ⟨_, rfl⟩
          obtain ⟨x, ex⟩ : ∃ x, x = nxT L m j := ⟨_, rfl⟩
          rw [← eX'] at hst hX hcw
          rw [← ex] at hst hx64 ⊢
          have f2 := i64_or_nat x X (by omega) (by omega)
          have hi1 : (0 : Int) ≤ (j : Int) ∧ (j : Int) < (n : Int) := by omega
          have hj64 : j < 64 := by omega
          have ST := Lib.hid hst
          clear hst eX' ex eX hc hbl ebit
          have hbit' : bit = 0 ∨ bit = 1 := by omega
          clear hbit
          rcases hbit' with rfl | rfl
          · have ST2 := Lib.hid (ST.out.trans (if_neg (by decide)))
            go_wp2
            go_round
            case rel => exact ⟨j + 1, by omega, by go_num, by rw [ST2.out]⟩
            case measure => simp [intOf]; omega
          · have ST2 := Lib.hid (ST.out.trans (if_pos rfl))
            go_wp2
            go_round
            case rel => exact ⟨j + 1, by omega, by go_num, by rw [ST2.out]⟩
            case measure => simp [intOf]; omega
        · have hjn' : j = n := by omega
          subst hjn'
          have hnx : nxT L m j = metT L v (k + 1) := by rw [HMS.out, ← EM.out]
          rw [hnx] at hx64 ⊢
          obtain ⟨x, ex⟩ : ∃ x, x = metT L v (k + 1) := ⟨_, rfl⟩
          rw [← ex] at hx64 ⊢
          have EX := Lib.hid ex
          clear ex hnx
          have R1 : Hid (Row wr w.heap.size (.slice (some ⟨g, 0, none⟩) j j) (ints ((List.range j).map fun u => if u < 0 then otT L v (k + 1) u else otT L v k u))) := Lib.hid (by
            have e : ((List.range j).map fun u => if u < 0 then otT L v (k + 1) u else otT L v k u) = (List.range j).map (otT L v k) := List.map_congr_left fun i _ => if_neg (by omega)
            rw [e]; exact hr.out)
          obtain ⟨w1, ew1⟩ : ∃ w1, w1 = wr := ⟨_, rfl⟩
          go_wp2
          rw [← ew1] at R1 hb ⊢
          clear ew1 hr
          go_loopw [10] (fun i wr => ∃ y : Nat, y ≤ j ∧ i = .int .i64 y ∧ Hid (Row wr w.heap.size (.slice (some ⟨g, 0, none⟩) j j) (ints ((List.range j).map fun u => if u < y then otT L v (k + 1) u else otT L v k u))) ∧ Hid (Below w.heap.size w wr)) (fun i _ => j - (intOf i).toNat)
          case atStart => exact ⟨0, Nat.zero_le _, rfl, R1, hb⟩
          case round =>
            obtain ⟨y, hy, rfl, hr, hb⟩ := hrel
            by_cases hyn : y < j
            · have hot : otT L v (k + 1) y = if x / 2 ^ y % 2 = 1 ∧ m / 2 ^ y % 2 = 0 then k + 1 else otT L v k y := by rw [EX.out, EM.out]; rfl
              obtain ⟨b1, eb1, hb1, f1⟩ := and_facts x y (by omega)
              obtain ⟨b2, eb2, hb2, f2⟩ := and_facts m y (by omega)
              rw [← eb1, ← eb2] at hot
              have hy64 : y < 64 := by omega
              have hlen : y < (ints ((List.range j).map fun u => if u < y then otT L v (k + 1) u else otT L v k u)).length := by rw [ints_length, List.length_map, List.length_range]; exact hyn
              obtain ⟨z, ez⟩ : ∃ z, z = (ints ((List.range j).map fun u => if u < y then otT L v (k + 1) u else otT L v k u))[y]?.getD 0 := ⟨_, rfl⟩
              have hgc : wr.cell? ⟨g, y, none⟩ = some (.int .i64 z) := by rw [ez]; exact hr.out.cellAt y hlen
              have hgf : wr.frozen? ⟨g, y, none⟩ = false := hr.out.frozenAt y hlen
              have hi1 : (0 : Int) ≤ (y : Int) ∧ (y : Int) < (j : Int) := by omega
              by_cases hbb : b1 = 1 ∧ b2 = 0
              · rw [if_pos hbb] at hot
                obtain ⟨rfl, rfl⟩ := hbb
                have r2 := hr.out.set y hlen ((otT L v (k + 1) y : Nat) : Int)
                rw [ints_set, upto_set (otT L v (k + 1)) (otT L v k) j y] at r2
                have e1 : ((otT L v (k + 1) y : Nat) : Int) = (k : Int) + 1 := by rw [hot]; omega
                rw [e1] at r2
                have R2 := Lib.hid r2
                clear r2 e1 hot eb1 eb2 ez hlen
                go_wp2
                go_roundw
                case rel => exact ⟨y + 1, by omega, by go_num, R2, Lib.hid (hb.out.setCell (p := ⟨g, y, none⟩) (by show w.heap.size ≤ g; have := HG.out; omega) _)⟩
                case measure => simp [intOf]; omega
              · rw [if_neg hbb] at hot
                have R2 : Hid (Row wr w.heap.size (.slice (some ⟨g, 0, none⟩) j j) (ints ((List.range j).map fun u => if u < y + 1 then otT L v (k + 1) u else otT L v k u))) := Lib.hid (by rw [← upto_same _ _ _ _ hot]; exact hr.out)
                clear hot eb1 eb2 ez hlen
                by_cases h1' : b1 = 1
                · have h2' : b2 = 1 := by omega
                  subst h1' h2'
                  clear hbb hb1 hb2
                  go_wp2
                  go_roundw
                  case rel => exact ⟨y + 1, by omega, by go_num, R2, hb⟩
                  case measure => simp [intOf]; omega
                · have h1'' : b1 = 0 := by omega
                  subst h1''
                  clear hbb hb1 hb2 h1'
                  go_wp2
                  go_roundw
                  case rel => exact ⟨y + 1, by omega, by go_num, R2, hb⟩
                  case measure => simp [intOf]; omega
            · have hyn' : y = j := by omega
              have hr2 : Row wr w.heap.size (.slice (some ⟨g, 0, none⟩) j j) (ints ((List.range j).map (otT L v (k + 1)))) := by
                have h0 := hr.out
                rw [hyn', upto_all] at h0
                exact h0
              have R3 := Lib.hid hr2
              clear hr2 hyn'
              go_wp2
              go_roundw
              case rel => exact ⟨k + 1, by omega, by congr 1, by rw [EX.out], R3, hb⟩
              case measure => simp [intOf]; omega
    · have hkn : k = n := by omega
      have hd1 : decide ((k : Int) + 1 ≤ (n : Int)) = false := by simp; omega
      have hr2 : Row wr w.heap.size (.slice (some ⟨g, 0, none⟩) n n) (ints (stepsT L v)) := by
        have h0 := hr.out
        rw [hkn, ← HS.out] at h0
        exact h0
      have R3 := Lib.hid hr2
      clear hkn hr2 hr
      go_wp2
      go_ret
      exact ⟨_, rfl, R3.out, hb.out⟩
end Go.Proofs.YtkngijkhhonikaaDoor
