/- The model's TreeFrom, of letters. -/
import Derived.Test.YtkngijkhhonikaaDoorFromMath
import Derived.Test.YtkngijkhhonikaaDoorBaseA
import Derived.StillTailTactics
import Derived.Test.YtkngijkhhonikaaDoorBaseG
namespace Go.Proofs.YtkngijkhhonikaaDoor
open Go Go.RowKit
set_option linter.unusedVariables false
set_option maxRecDepth 100000

theorem drop_consN {ls : List Nat} {j : Nat} (h : j < ls.length) : ls.drop j = ls[j]?.getD 0 :: ls.drop (j + 1) := by
  rw [List.drop_eq_getElem_cons h, List.getElem?_eq_getElem h]
  rfl
theorem pow_facts6 {s : Nat} (h : s < 6) : ∃ P : Nat, P = 2 ^ s ∧ P < 64 ∧ wrap64 ((2 : Int) ^ s) = (P : Int) ∧ wrap64 ((2 : Int) ^ min s 64) = (P : Int) ∧ IntKind.i64.wrap ((2 : Int) ^ s) = (P : Int) := by
  have p1 : wrap64 ((2 : Int) ^ s) = ((2 ^ s : Nat) : Int) := wrap_pow s (by omega)
  refine ⟨2 ^ s, rfl, Nat.pow_lt_pow_right (a := 2) (m := s) (n := 6) (by omega) h, p1, ?_, ?_⟩
  · rw [Nat.min_eq_left (show s ≤ 64 by omega)]; exact p1
  · rw [IntKind.wrap_i64]; unfold wrap64 at p1; exact p1

set_option maxHeartbeats 16000000 in
theorem specFrom_yes (B : Nat) (v : Value) (n : Nat) (ls : List Nat) (hL : IsLetters n ls) (w : World) (h : Row w B v (ints ls)) :
    Calls Tryd.prog 76 #[.int .i64 n, v] w (Told w (ints (fromT n ls)) true) := by
  have FO := Lib.hid (fun i hi => from_ok hL i hi)
  have FL := Lib.hid (from_last hL)
  have FS := Lib.hid (fun i hi => from_small hL i hi)
  have FW : ∀ i, i < ls.length → fW n ls i = ls[i]?.getD 0 := fun i hi => by unfold fW; rw [if_pos hi]
  have FG : ∀ i, fG n ls (i + 1) = fPut (fPut (fG n ls i) (fV n ls i) (fW n ls i)) (fW n ls i) (fV n ls i) := fun _ => rfl
  have FD : ∀ i, fLeft n ls (i + 1) = less (fLeft n ls i) (2 ^ fV n ls i) := fun _ => rfl
  have FN := Lib.hid (fun i => fG_len n ls i)
  obtain ⟨h2, h6, hl, hm⟩ := hL
  have h64 : 2 ^ n ≤ 64 := Nat.le_trans (Nat.pow_le_pow_right (n := 2) (by omega) h6) (show 2 ^ 6 ≤ 64 by decide)
  have H64 := Lib.hid h64
  obtain ⟨A, c, rfl, hs⟩ := h.seen
  have HC : Hid (∀ j, j < ls.length → ∃ blk off, A = some ⟨blk, off, none⟩ ∧ blk < w.heap.size ∧ w.cell? ⟨blk, off + j, none⟩ = some (.int .i64 (ls[j]?.getD 0 : Nat)) ∧ ls[j]?.getD 0 < n) := Lib.hid fun j hj => by
    obtain ⟨blk, off, a, b, cc⟩ := hs j (by rw [ints_length]; exact hj)
    rw [ints_get] at cc
    exact ⟨blk, off, a, b, cc, by rw [List.getElem?_eq_getElem hj]; exact hm _ (List.getElem_mem hj)⟩
  have hil : (ints ls).length = ls.length := ints_length _
  rw [hil]
  have hT : fromT n ls = fG n ls (ls.length + 1) := rfl
  have DC := Lib.hid (fun j (hj : j < ls.length) => drop_consN hj)
  have DN : Hid (ls.drop ls.length = []) := Lib.hid (by simp)
  have F0 : fLeft n ls 0 = 2 ^ n - 1 := rfl
  have G0 : fG n ls 0 = List.replicate n 0 := rfl
  obtain ⟨m, em⟩ : ∃ m, m = ls.length := ⟨_, rfl⟩
  rw [← em] at hl HC FO FL FS FW DC DN hT ⊢
  have HT := Lib.hid hT
  have HFW := Lib.hid FW
  have HFG := Lib.hid FG
  have HFD := Lib.hid FD
  have HF0 := Lib.hid F0
  have HG0 := Lib.hid G0
  obtain ⟨P, Q, hP, hQ, hP64, p1, p2, p3⟩ := shl_facts n (by omega)
  have HP := Lib.hid hP
  have HQ := Lib.hid hQ
  have hmk := run_make_ints n (by omega)
  have R0 := Lib.hid (madeW_row w n (by omega))
  have B0 := Lib.hid (madeW_below w n)
  have hw1 : wrap64 ((n : Int) - 2) = (m : Int) := by unfold wrap64; omega
  obtain ⟨n1, en1⟩ : ∃ n1 : Nat, (n : Int) - 1 = (n1 : Int) := ⟨n - 1, by omega⟩
  have hw2 : wrap64 ((n : Int) - 1) = (n1 : Int) := by unfold wrap64; omega
  have hmn : m ≤ 4 := by omega
  have hd0 : ((m : Int) != (n : Int) - 2) = false := by simp; omega
  have hn64 : n < 64 := by omega
  clear h hs hil hm hT FW FG FD F0 G0 em hP hQ h64
  go_enter Tryd.func76, Tryd.ntmps76
  go_wp2_with fail
  refine (in_yes _ _ _ _ (by omega) (by omega)).mono ?_
  rintro e w1 ⟨rfl, rfl⟩
  go_wp2
  go_loop [6] (fun i => ∃ k : Nat, k ≤ m ∧ i = .int .i64 k) (fun i => m - (intOf i).toNat)
  case atStart => exact ⟨0, Nat.zero_le _, rfl⟩
  case round =>
    obtain ⟨k, hk, rfl⟩ := hrel
    by_cases hlt : k < m
    · obtain ⟨blk, off, rfl, hbl, hc, hln⟩ := HC.out k hlt
      have hi1 : (0 : Int) ≤ (k : Int) ∧ (k : Int) < (m : Int) := by omega
      obtain ⟨l, el⟩ : ∃ l, l = ls[k]?.getD 0 := ⟨_, rfl⟩
      rw [← el] at hc hln
      clear el hmk
      go_wp2_with fail
      refine (in_yes _ _ _ _ (by omega) (by omega)).mono ?_
      rintro e w1 ⟨rfl, rfl⟩
      go_wp2
      go_round
      case rel => exact ⟨k + 1, by omega, by go_num⟩
      case measure => simp [intOf]; omega
    · have hkm : k = m := by omega
      subst hkm
      go_wp2
      obtain ⟨g, eg⟩ : ∃ g, g = w.heap.size := ⟨_, rfl⟩
      obtain ⟨w0, hw0⟩ : ∃ w0, w0 = madeW w n := ⟨_, rfl⟩
      rw [← hw0] at R0 B0 ⊢
      rw [← eg] at R0 ⊢
      have HG0s : Hid (w.heap.size ≤ g) := Lib.hid (by omega)
      clear hw0 hmk eg
      have L0 : Hid (((Q : Nat) : Int) = ((fLeft n ls 0 : Nat) : Int)) := Lib.hid (by rw [HF0.out, ← HP.out]; have := HQ.out; omega)
      go_loopw [8, 9] (fun x i wr => ∃ j : Nat, j ≤ k + 1 ∧ i = .int .i64 j ∧ x = .int .i64 (fLeft n ls j : Nat) ∧ Hid (Row wr w.heap.size (.slice (some ⟨g, 0, none⟩) n n) (ints (fG n ls j))) ∧ Hid (Below w.heap.size w wr)) (fun _ i _ => k + 1 - (intOf i).toNat)
      case atStart => exact ⟨0, Nat.zero_le _, rfl, by rw [L0.out], Lib.hid (by rw [HG0.out]; exact R0.out.mono HG0s.out), B0⟩
      case round =>
        obtain ⟨i, hi, rfl, rfl, hr, hb⟩ := hrel
        by_cases hik : i ≤ k
        · have hd1 : decide ((i : Int) ≤ (k : Int)) = true := by simp; omega
          have HFO := Lib.hid (FO.out i hik)
          have hl64 : fLeft n ls i < 64 := Nat.lt_of_lt_of_le (FO.out i hik).1 H64.out
          have LD := Lib.hid (HFD.out i)
          obtain ⟨le, ele⟩ : ∃ le, le = fLeft n ls i := ⟨_, rfl⟩
          rw [← ele] at HFO hl64 LD ⊢
          obtain ⟨F, eF⟩ : ∃ F, F = fFree le (ls.drop i) := ⟨_, rfl⟩
          rw [← eF] at HFO
          have hF64 : F < 64 := by rw [eF]; exact Nat.lt_of_le_of_lt (free_le _ _) hl64
          have EF := Lib.hid eF
          clear ele eF
          go_wp2
          go_loop [10, 11] (fun f x => ∃ j cur : Nat, i ≤ j ∧ j ≤ k ∧ x = .int .i64 j ∧ f = .int .i64 cur ∧ cur < 64 ∧ Hid (fFree cur (ls.drop j) = F)) (fun _ x => k - (intOf x).toNat)
          case atStart => exact ⟨i, le, Nat.le_refl _, hik, rfl, rfl, hl64, Lib.hid EF.out.symm⟩
          case round =>
            obtain ⟨j, cur, hij, hjk, rfl, rfl, hcur, hfr⟩ := hrel
            by_cases hjlt : j < k
            · obtain ⟨blk, off, rfl, hbl, hc, hln⟩ := HC.out j hjlt
              have hcw : wr.cell? ⟨blk, off + j, none⟩ = some (.int .i64 (ls[j]?.getD 0 : Nat)) := (hb.out.cell (p := ⟨blk, off + j, none⟩) hbl).trans hc
              have hi1 : (0 : Int) ≤ (j : Int) ∧ (j : Int) < (k : Int) := by omega
              have hdr := DC.out j hjlt
              obtain ⟨l, el⟩ : ∃ l, l = ls[j]?.getD 0 := ⟨_, rfl⟩
              rw [← el] at hcw hln hdr
              obtain ⟨PL, ePL, hPL, a1, a2, a3⟩ := pow_facts6 (show l < 6 by omega)
              have f1 := less_op cur PL (Nat.lt_trans hcur (by decide)) (Nat.lt_trans hPL (by decide))
              obtain ⟨c2, ec2⟩ : ∃ c2, c2 = less cur PL := ⟨_, rfl⟩
              rw [← ec2] at f1
              have hc2 : c2 < 64 := by rw [ec2]; exact Nat.lt_of_le_of_lt (less_le _ _) hcur
              have HFR : Hid (fFree c2 (ls.drop (j + 1)) = F) := Lib.hid (by rw [← hfr.out, hdr, ec2, ePL]; rfl)
              have hl64' : l < 64 := by omega
              clear hc hbl el hdr ec2 ePL hfr
              go_wp2
              go_round
              case rel => exact ⟨j + 1, c2, by omega, by omega, by go_num, rfl, hc2, HFR⟩
              case measure => simp [intOf]; omega
            · have hjk' : j = k := by omega
              subst hjk'
              have hcF : cur = F := by have := hfr.out; rw [DN.out] at this; exact this
              subst hcF
              obtain ⟨V, eV⟩ : ∃ V, V = fV n ls i := ⟨_, rfl⟩
              rw [← eV] at HFO LD
              have EV := Lib.hid eV
              clear eV hfr
              go_wp2
              go_loop [12] (fun x => ∃ u : Nat, u ≤ V ∧ x = .int .i64 u) (fun x => V - (intOf x).toNat)
              case atStart => exact ⟨0, Nat.zero_le _, rfl⟩
              case round =>
                obtain ⟨u, hu, rfl⟩ := hrel
                obtain ⟨bit, ebit, hbit, fb⟩ := and_facts cur u (Nat.lt_trans hF64 (by decide))
                have hVn := HFO.out.2.2.1.1
                have hu64 : u < 64 := by omega
                by_cases huv : u < V
                · have hb0 : bit = 0 := by have := HFO.out.2.2.1.2.2 u huv; omega
                  subst hb0
                  clear ebit hbit
                  have e1 : (((0 : Nat) : Int) == 0) = true := rfl
                  go_wp2
                  go_round
                  case rel => exact ⟨u + 1, by omega, by go_num⟩
                  case measure => simp [intOf]; omega
                · have huV : u = V := by omega
                  subst huV
                  have hb1 : bit = 1 := by have := HFO.out.2.2.1.2.1; omega
                  subst hb1
                  clear ebit hbit
                  have e1 : (((1 : Nat) : Int) == 0) = false := rfl
                  obtain ⟨PU, ePU, hPU, c1, c2, c3⟩ := pow_facts6 (show u < 6 by omega)
                  have f3 := less_op le PU (Nat.lt_trans hl64 (by decide)) (Nat.lt_trans hPU (by decide))
                  obtain ⟨le2, ele2⟩ : ∃ le2, le2 = less le PU := ⟨_, rfl⟩
                  rw [← ele2] at f3
                  have LD2 : Hid (fLeft n ls (i + 1) = le2) := Lib.hid (by rw [LD.out, ele2, ePU])
                  have hle2 : le2 < 64 := by rw [ele2]; exact Nat.lt_of_le_of_lt (less_le _ _) hl64
                  have HPU := Lib.hid ePU
                  clear ele2 ePU
                  by_cases hwk : i < j
                  · obtain ⟨blk, off, rfl, hbl, hc, hln⟩ := HC.out i hwk
                    have hcw : wr.cell? ⟨blk, off + i, none⟩ = some (.int .i64 (ls[i]?.getD 0 : Nat)) := (hb.out.cell (p := ⟨blk, off + i, none⟩) hbl).trans hc
                    have hi1 : (0 : Int) ≤ (i : Int) ∧ (i : Int) < (j : Int) := by omega
                    obtain ⟨s, es⟩ : ∃ s, s = ls[i]?.getD 0 := ⟨_, rfl⟩
                    rw [← es] at hcw hln
                    have HS : Hid (s = fW n ls i) := Lib.hid (by rw [HFW.out i hwk]; exact es)
                    clear hc hbl es
                    have hgs := FS.out i (by omega)
                    have hgl := FN.out i
                    have HGN := Lib.hid (HFG.out i)
                    rw [← EV.out, ← HS.out] at HGN
                    obtain ⟨gk, egk⟩ : ∃ gk, gk = fG n ls i := ⟨_, rfl⟩
                    rw [← egk] at hgs hgl HGN hr
                    obtain ⟨PW, ePW, hPW, a1, a2, a3⟩ := pow_facts6 (show s < 6 by omega)
                    have hx1 := hgs u
                    have hl1 : u < (ints gk).length := by rw [ints_length, hgl]; omega
                    have z1 := hr.out.cellAt u hl1
                    have z2 := hr.out.frozenAt u hl1
                    rw [ints_get] at z1
                    obtain ⟨x1, ex1⟩ : ∃ x1, x1 = gk[u]?.getD 0 := ⟨_, rfl⟩
                    rw [← ex1] at z1 hx1
                    have f1 := i64_or_nat x1 PW (Nat.lt_trans hx1 (by decide)) (Nat.lt_trans hPW (by decide))
                    obtain ⟨y1, ey1⟩ : ∃ y1, y1 = x1 ||| PW := ⟨_, rfl⟩
                    rw [← ey1] at f1
                    have HG1 : Hid (fPut gk u s = gk.set u y1) := Lib.hid (by unfold fPut; rw [ey1, ex1, ePW])
                    have R1 : Row (wr.drew.setCell ⟨g, u, none⟩ (.int .i64 (y1 : Nat))) w.heap.size (.slice (some ⟨g, 0, none⟩) n n) (ints (fPut gk u s)) := by
                      rw [HG1.out, ← ints_set]
                      exact Row.set (w := wr.drew) hr.out u hl1 (y1 : Int)
                    have B1 : Below w.heap.size w (wr.drew.setCell ⟨g, u, none⟩ (.int .i64 (y1 : Nat))) := hb.out.drew.setCell (p := ⟨g, u, none⟩) (HG0s.out) _
                    have d1 : wr.drew.cell? ⟨g, u, none⟩ = some (.int .i64 (x1 : Nat)) := z1
                    have d2 : wr.drew.frozen? ⟨g, u, none⟩ = false := z2
                    have hx2 := fPut_small (a := u) (b := s) hgs (by omega) s
                    have hl2 : s < (ints (fPut gk u s)).length := by rw [ints_length, fPut_len, hgl]; omega
                    have hi5 : (0 : Int) ≤ (u : Int) ∧ (u : Int) < (n : Int) := by omega
                    have hi6 : (0 : Int) ≤ (s : Int) ∧ (s : Int) < (n : Int) := by omega
                    have hs64 : s < 64 := by omega
                    have hu64 : u < 64 := by omega
                    have HR1 := Lib.hid R1
                    have HB1 := Lib.hid B1
                    have HX2 := Lib.hid hx2
                    have HL2 := Lib.hid hl2
                    clear hgs hgl egk ePW hx1 hl1 z1 z2 ex1 ey1 R1 B1 hx2 hl2
                    go_wp2
                    go_still_tail 10, (by kernel_rfl)
                    change wpList _ _ _ _ _ wr.drew
                    go_wp2
                    clear d1 d2 f1
                    obtain ⟨W1, eW1⟩ : ∃ W1, W1 = (wr.setCell ⟨g, u, none⟩ (.int .i64 (y1 : Nat))).drew := ⟨_, rfl⟩
                    rw [show wr.drew.setCell ⟨g, u, none⟩ (.int .i64 (y1 : Nat)) = W1 from by rw [eW1]; rfl] at HR1 HB1
                    rw [← eW1]
                    clear eW1
                    obtain ⟨G1, eG1⟩ : ∃ G1, G1 = fPut gk u s := ⟨_, rfl⟩
                    rw [← eG1] at HR1 HX2 HL2 HGN
                    have hx3 := HX2.out
                    have z1 := HR1.out.cellAt s HL2.out
                    have z2 := HR1.out.frozenAt s HL2.out
                    rw [ints_get] at z1
                    obtain ⟨x2, ex2⟩ : ∃ x2, x2 = G1[s]?.getD 0 := ⟨_, rfl⟩
                    rw [← ex2] at z1 hx3
                    have f2 := i64_or_nat x2 PU (Nat.lt_trans hx3 (by decide)) (Nat.lt_trans hPU (by decide))
                    obtain ⟨y2, ey2⟩ : ∃ y2, y2 = x2 ||| PU := ⟨_, rfl⟩
                    rw [← ey2] at f2
                    have HG2 : Hid (fPut G1 s u = G1.set s y2) := Lib.hid (by unfold fPut; rw [ey2, ex2, HPU.out])
                    have R2 : Hid (Row (W1.drew.setCell ⟨g, s, none⟩ (.int .i64 (y2 : Nat))) w.heap.size (.slice (some ⟨g, 0, none⟩) n n) (ints (fG n ls (i + 1)))) := Lib.hid (by
                      rw [HGN.out, HG2.out, ← ints_set]
                      exact Row.set (w := W1.drew) HR1.out s HL2.out (y2 : Int))
                    have B2 : Hid (Below w.heap.size w (W1.drew.setCell ⟨g, s, none⟩ (.int .i64 (y2 : Nat)))) := Lib.hid (HB1.out.drew.setCell (p := ⟨g, s, none⟩) (HG0s.out) _)
                    have d1 : W1.drew.cell? ⟨g, s, none⟩ = some (.int .i64 (x2 : Nat)) := z1
                    have d2 : W1.drew.frozen? ⟨g, s, none⟩ = false := z2
                    clear hx3 z1 z2 ex2 ey2 eG1
                    go_wp2
                    go_still_tail 10, (by kernel_rfl)
                    change wpList _ _ _ _ _ W1.drew
                    go_wp2
                    go_roundw
                    case rel => exact ⟨i + 1, by omega, by go_num, by rw [LD2.out], R2, B2⟩
                    case measure => simp [intOf]; omega
                  · have hie : i = j := by omega
                    subst hie
                    have HLA := Lib.hid FL.out
                    rw [LD2.out] at HLA
                    obtain ⟨S, eS⟩ : ∃ S, S = fW n ls i := ⟨_, rfl⟩
                    rw [← eS] at HLA
                    have ES := Lib.hid eS
                    have HLE2 := Lib.hid hle2
                    clear eS
                    go_wp2
                    go_loop [13] (fun x => ∃ s : Nat, s ≤ S ∧ x = .int .i64 s) (fun x => S - (intOf x).toNat)
                    case atStart => exact ⟨0, Nat.zero_le _, rfl⟩
                    case round =>
                      obtain ⟨s, hs, rfl⟩ := hrel
                      obtain ⟨bit, ebit, hbit, fb2⟩ := and_facts le2 s (Nat.lt_trans HLE2.out (by decide))
                      have hSn := HLA.out.1
                      have hs64' : s < 64 := by omega
                      by_cases hsS : s < S
                      · have hb0 : bit = 0 := by have := HLA.out.2.2 s hsS; omega
                        subst hb0
                        clear ebit hbit
                        have e2 : (((0 : Nat) : Int) == 0) = true := rfl
                        go_wp2
                        go_round
                        case rel => exact ⟨s + 1, by omega, by go_num⟩
                        case measure => simp [intOf]; omega
                      · have hsE : s = S := by omega
                        subst hsE
                        have hb1 : bit = 1 := by have := HLA.out.2.1; omega
                        subst hb1
                        clear ebit hbit
                        have e2 : (((1 : Nat) : Int) == 0) = false := rfl
                        have hln : s < n := hSn
                        have HS : Hid (s = fW n ls i) := ES
                        have hgs := FS.out i (by omega)
                        have hgl := FN.out i
                        have HGN := Lib.hid (HFG.out i)
                        rw [← EV.out, ← HS.out] at HGN
                        obtain ⟨gk, egk⟩ : ∃ gk, gk = fG n ls i := ⟨_, rfl⟩
                        rw [← egk] at hgs hgl HGN hr
                        obtain ⟨PW, ePW, hPW, a1, a2, a3⟩ := pow_facts6 (show s < 6 by omega)
                        have hx1 := hgs u
                        have hl1 : u < (ints gk).length := by rw [ints_length, hgl]; omega
                        have z1 := hr.out.cellAt u hl1
                        have z2 := hr.out.frozenAt u hl1
                        rw [ints_get] at z1
                        obtain ⟨x1, ex1⟩ : ∃ x1, x1 = gk[u]?.getD 0 := ⟨_, rfl⟩
                        rw [← ex1] at z1 hx1
                        have f1 := i64_or_nat x1 PW (Nat.lt_trans hx1 (by decide)) (Nat.lt_trans hPW (by decide))
                        obtain ⟨y1, ey1⟩ : ∃ y1, y1 = x1 ||| PW := ⟨_, rfl⟩
                        rw [← ey1] at f1
                        have HG1 : Hid (fPut gk u s = gk.set u y1) := Lib.hid (by unfold fPut; rw [ey1, ex1, ePW])
                        have R1 : Row (wr.drew.setCell ⟨g, u, none⟩ (.int .i64 (y1 : Nat))) w.heap.size (.slice (some ⟨g, 0, none⟩) n n) (ints (fPut gk u s)) := by
                          rw [HG1.out, ← ints_set]
                          exact Row.set (w := wr.drew) hr.out u hl1 (y1 : Int)
                        have B1 : Below w.heap.size w (wr.drew.setCell ⟨g, u, none⟩ (.int .i64 (y1 : Nat))) := hb.out.drew.setCell (p := ⟨g, u, none⟩) (HG0s.out) _
                        have d1 : wr.drew.cell? ⟨g, u, none⟩ = some (.int .i64 (x1 : Nat)) := z1
                        have d2 : wr.drew.frozen? ⟨g, u, none⟩ = false := z2
                        have hx2 := fPut_small (a := u) (b := s) hgs (by omega) s
                        have hl2 : s < (ints (fPut gk u s)).length := by rw [ints_length, fPut_len, hgl]; omega
                        have hi5 : (0 : Int) ≤ (u : Int) ∧ (u : Int) < (n : Int) := by omega
                        have hi6 : (0 : Int) ≤ (s : Int) ∧ (s : Int) < (n : Int) := by omega
                        have hs64 : s < 64 := by omega
                        have hu64 : u < 64 := by omega
                        have HR1 := Lib.hid R1
                        have HB1 := Lib.hid B1
                        have HX2 := Lib.hid hx2
                        have HL2 := Lib.hid hl2
                        clear hgs hgl egk ePW hx1 hl1 z1 z2 ex1 ey1 R1 B1 hx2 hl2
                        go_wp2
                        go_still_tail 10, (by kernel_rfl)
                        change wpList _ _ _ _ _ wr.drew
                        go_wp2
                        clear d1 d2 f1
                        obtain ⟨W1, eW1⟩ : ∃ W1, W1 = (wr.setCell ⟨g, u, none⟩ (.int .i64 (y1 : Nat))).drew := ⟨_, rfl⟩
                        rw [show wr.drew.setCell ⟨g, u, none⟩ (.int .i64 (y1 : Nat)) = W1 from by rw [eW1]; rfl] at HR1 HB1
                        rw [← eW1]
                        clear eW1
                        obtain ⟨G1, eG1⟩ : ∃ G1, G1 = fPut gk u s := ⟨_, rfl⟩
                        rw [← eG1] at HR1 HX2 HL2 HGN
                        have hx3 := HX2.out
                        have z1 := HR1.out.cellAt s HL2.out
                        have z2 := HR1.out.frozenAt s HL2.out
                        rw [ints_get] at z1
                        obtain ⟨x2, ex2⟩ : ∃ x2, x2 = G1[s]?.getD 0 := ⟨_, rfl⟩
                        rw [← ex2] at z1 hx3
                        have f2 := i64_or_nat x2 PU (Nat.lt_trans hx3 (by decide)) (Nat.lt_trans hPU (by decide))
                        obtain ⟨y2, ey2⟩ : ∃ y2, y2 = x2 ||| PU := ⟨_, rfl⟩
                        rw [← ey2] at f2
                        have HG2 : Hid (fPut G1 s u = G1.set s y2) := Lib.hid (by unfold fPut; rw [ey2, ex2, HPU.out])
                        have R2 : Hid (Row (W1.drew.setCell ⟨g, s, none⟩ (.int .i64 (y2 : Nat))) w.heap.size (.slice (some ⟨g, 0, none⟩) n n) (ints (fG n ls (i + 1)))) := Lib.hid (by
                          rw [HGN.out, HG2.out, ← ints_set]
                          exact Row.set (w := W1.drew) HR1.out s HL2.out (y2 : Int))
                        have B2 : Hid (Below w.heap.size w (W1.drew.setCell ⟨g, s, none⟩ (.int .i64 (y2 : Nat)))) := Lib.hid (HB1.out.drew.setCell (p := ⟨g, s, none⟩) (HG0s.out) _)
                        have d1 : W1.drew.cell? ⟨g, s, none⟩ = some (.int .i64 (x2 : Nat)) := z1
                        have d2 : W1.drew.frozen? ⟨g, s, none⟩ = false := z2
                        clear hx3 z1 z2 ex2 ey2 eG1
                        go_wp2
                        go_still_tail 10, (by kernel_rfl)
                        change wpList _ _ _ _ _ W1.drew
                        go_wp2
                        go_roundw
                        case rel => exact ⟨i + 1, by omega, by go_num, by rw [LD2.out], R2, B2⟩
                        case measure => simp [intOf] <;> omega
        · have hik' : i = k + 1 := by omega
          subst hik'
          have hd1 : decide (((k : Int) + 1) ≤ (k : Int)) = false := by simp; omega
          go_wp2
          go_ret2
          exact ⟨_, rfl, by rw [HT.out]; exact hr.out, hb.out⟩
theorem in_outF (n lo hi : Int) (w : World) (h : ¬ (lo ≤ n ∧ n ≤ hi)) :
    Calls Tryd.prog 44 #[.int .i64 n, .int .i64 lo, .int .i64 hi] w fun e w' => e = .returned (.bool false) ∧ w = w' :=
  (in_any n lo hi w).mono fun e w' ⟨he, hw⟩ => ⟨by rw [he, decide_eq_false h], hw⟩
set_option maxHeartbeats 4000000 in
theorem specFrom_no (B : Nat) (v : Value) (z : Int) (Ls : List Int) (hz : -9223372036854775808 ≤ z ∧ z ≤ 9223372036854775807) (hno : ¬ (2 ≤ z ∧ z ≤ 6 ∧ (Ls.length : Int) + 2 = z ∧ ∀ l ∈ Ls, 0 ≤ l ∧ l < z)) (w : World) (h : Row w B v Ls) :
    Calls Tryd.prog 76 #[.int .i64 z, v] w (Told w [] false) := by
  have R0 := Lib.hid (World.ownsRow_lit (base := w.heap.size) (e := 3) (size := 1) w #[] 0 (Nat.le_refl _) (by unfold maxLen; omega) rfl)
  have B0 := Lib.hid ((Below.refl w.heap.size w).alloc (Nat.le_refl _) (.cells #[] 3))
  by_cases h26 : 2 ≤ z ∧ z ≤ 6
  · obtain ⟨A, c, rfl, hs⟩ := h.seen
    have hw1 : wrap64 (z - 2) = z - 2 := by unfold wrap64; omega
    by_cases hl : (Ls.length : Int) + 2 = z
    · have hbad : ¬ ∀ l ∈ Ls, 0 ≤ l ∧ l < z := fun q => hno ⟨h26.1, h26.2, hl, q⟩
      have hall : ¬ ∀ j, j < Ls.length → 0 ≤ Ls[j]?.getD 0 ∧ Ls[j]?.getD 0 < z := fun q => hbad fun l hl' => by
        obtain ⟨j, hj, rfl⟩ := List.mem_iff_getElem.1 hl'
        have h := q j hj
        rw [List.getElem?_eq_getElem hj] at h
        exact h
      obtain ⟨m, hm⟩ : ∃ m, m = Ls.length := ⟨_, rfl⟩
      rw [← hm] at hl hall ⊢
      have HM := Lib.hid hm
      have HS := Lib.hid hs
      have HA := Lib.hid hall
      have hd0 : ((m : Int) != z - 2) = false := by simp; omega
      obtain ⟨z1, ez1⟩ : ∃ z1 : Int, z - 1 = z1 := ⟨_, rfl⟩
      have hw2 : wrap64 (z - 1) = z1 := by unfold wrap64; omega
      have HZ1 := Lib.hid ez1
      clear h hs hno hbad hall hm
      go_enter Tryd.func76, Tryd.ntmps76
      go_wp2_with fail
      refine (in_yes _ _ _ _ (by omega) (by omega)).mono ?_
      rintro e w1 ⟨rfl, rfl⟩
      go_wp2
      go_loop [6] (fun i => ∃ k : Nat, k ≤ m ∧ i = .int .i64 k ∧ Hid (∀ j, j < k → 0 ≤ Ls[j]?.getD 0 ∧ Ls[j]?.getD 0 < z)) (fun i => m - (intOf i).toNat)
      case atStart => exact ⟨0, Nat.zero_le _, rfl, Lib.hid fun j hj => absurd hj (by omega)⟩
      case round =>
        obtain ⟨k, hk, rfl, hok⟩ := hrel
        have hlt : k < m := by
          rcases Nat.lt_or_ge k m with q | q
          · exact q
          · exact absurd (fun j hj => hok.out j (by omega)) HA.out
        obtain ⟨blk, off, rfl, hbl, hc⟩ := HS.out k (by have := HM.out; omega)
        have hi1 : (0 : Int) ≤ (k : Int) ∧ (k : Int) < (m : Int) := by omega
        have hnext : (0 ≤ Ls[k]?.getD 0 ∧ Ls[k]?.getD 0 < z) → ∀ j, j < k + 1 → 0 ≤ Ls[j]?.getD 0 ∧ Ls[j]?.getD 0 < z := fun q j hj => by
          by_cases e : j = k
          · rw [e]; exact q
          · exact hok.out j (by omega)
        obtain ⟨l, el⟩ : ∃ l, l = Ls[k]?.getD 0 := ⟨_, rfl⟩
        rw [← el] at hc hnext
        clear el
        by_cases hin : 0 ≤ l ∧ l < z
        · have HN := Lib.hid (hnext hin)
          have hin2 : 0 ≤ l ∧ l ≤ z1 := by have := HZ1.out; omega
          clear hnext hin
          go_wp2_with fail
          refine (in_yes _ _ _ _ hin2.1 hin2.2).mono ?_
          rintro e w1 ⟨rfl, rfl⟩
          go_wp2
          go_round
          case rel => exact ⟨k + 1, by omega, by go_num, HN⟩
          case measure => simp [intOf]; omega
        · have HO := Lib.hid (show ¬ (0 ≤ l ∧ l ≤ z1) from fun q => hin (by have := HZ1.out; omega))
          clear hnext hin
          go_wp2_with fail
          refine (in_outF _ _ _ _ HO.out).mono ?_
          rintro e w1 ⟨rfl, rfl⟩
          go_wp2
          go_ret2
          exact ⟨_, rfl, R0.out, B0.out⟩
    · have hd0 : ((Ls.length : Int) != z - 2) = true := by simp; omega
      obtain ⟨m, hm⟩ : ∃ m, m = Ls.length := ⟨_, rfl⟩
      rw [← hm] at hd0 ⊢
      clear h hs hno hm hl
      go_enter Tryd.func76, Tryd.ntmps76
      go_wp2_with fail
      refine (in_yes _ _ _ _ (by omega) (by omega)).mono ?_
      rintro e w1 ⟨rfl, rfl⟩
      go_wp2
      go_ret2
      exact ⟨_, rfl, R0.out, B0.out⟩
  · have HO := Lib.hid h26
    clear h26 hno h
    go_enter Tryd.func76, Tryd.ntmps76
    go_wp2_with fail
    refine (in_outF _ _ _ _ HO.out).mono ?_
    rintro e w1 ⟨rfl, rfl⟩
    go_wp2
    go_ret2
    exact ⟨_, rfl, R0.out, B0.out⟩
end Go.Proofs.YtkngijkhhonikaaDoor
