/- The model's l8Given, l8Parts and l8Rank. -/
import Derived.Test.YtamabhdbcmjbjaaDoorPartsMath
import Derived.Test.YtamabhdbcmjbjaaDoorSubMath
import Derived.Test.YtamabhdbcmjbjaaDoorBaseA
import Derived.Test.YtamabhdbcmjbjaaDoorBaseF
namespace Go.Proofs.YtamabhdbcmjbjaaDoor
open Go.RowKit
set_option linter.unusedVariables false
set_option maxRecDepth 100000

theorem given_any (B : Nat) (v : Value) (L : List Int) (b : Bool) (hb : b = true ↔ IsT L) (w : World) (h : Row w B v L) :
    Calls Tryd.prog 36 #[v] w (Looked w b) := by
  by_cases hg : IsGraph L
  · have H1 := Lib.hid (specIn_any B v L true ⟨fun _ => hg, fun _ => rfl⟩ w h)
    have hd : decide ((L.length : Int) ≤ 5) = b := by
      rw [Bool.eq_iff_iff, hb, decide_eq_true_eq]
      exact ⟨fun q => ⟨hg, by omega⟩, fun q => by have := q.2; omega⟩
    obtain ⟨A, c, rfl, hs⟩ := h.seen
    obtain ⟨n, hn⟩ : ∃ n, n = L.length := ⟨_, rfl⟩
    rw [← hn] at H1 hd ⊢
    clear hg h hs hn hb
    go_enter Tryd.func36, Tryd.ntmps36
    go_wp2_with fail
    refine H1.out.mono ?_
    rintro e w1 ⟨rfl, d, rfl⟩
    go_wp2
    go_ret
    exact ⟨rfl, _, rfl⟩
  · have H1 := Lib.hid (specIn_any B v L false ⟨fun q => (by cases q), fun q => absurd q hg⟩ w h)
    obtain rfl : b = false := by
      cases b with
      | false => rfl
      | true => exact absurd (hb.1 rfl).1 hg
    clear hg h hb
    go_enter Tryd.func36, Tryd.ntmps36
    go_wp2_with fail
    refine H1.out.mono ?_
    rintro e w1 ⟨rfl, d, rfl⟩
    go_wp2
    go_ret
    exact ⟨rfl, _, rfl⟩

theorem range_snoc (k : Nat) : List.range (k + 1) = List.range k ++ [k] := List.range_succ
set_option maxHeartbeats 8000000 in
theorem parts_any (n s : Nat) (hn1 : 1 ≤ n) (hn6 : n ≤ 6) (hs : s < 32768) (w : World) :
    Calls Tryd.prog 66 #[.int .i64 n, .int .i64 s] w (Gave w (ints (pOut n s n))) := by
  have R0 := Lib.hid (World.ownsRow_lit (base := w.heap.size) (e := 3) (size := 1) w #[] 0 (Nat.le_refl _) (by unfold maxLen; omega) rfl)
  have B0 := Lib.hid ((Below.refl w.heap.size w).alloc (Nat.le_refl _) (.cells #[] 3))
  go_enter Tryd.func66, Tryd.ntmps66
  go_wp2
  go_loopw [5, 6] (fun v i wr => ∃ k : Nat, k ≤ n ∧ i = .int .i64 k ∧ Hid (Row wr w.heap.size v (ints (List.range k))) ∧ Hid (Below w.heap.size w wr)) (fun _ i _ => n - (intOf i).toNat)
  case atStart => exact ⟨0, Nat.zero_le _, rfl, R0, B0⟩
  case round =>
    obtain ⟨k, hk, rfl, hr, hb⟩ := hrel
    by_cases hlt : k < n
    · have HLN := Lib.hid (show (ints (List.range k)).length ≤ 100000 by rw [ints_length, List.length_range]; omega)
      go_wp2_with (at_builtin; refine append_one rfl (.tmp 19) (.tmp 21) rfl wr w.heap.size u5 (ints (List.range k)) (k : Int) rfl rfl hr.out hb.out.size HLN.out ?_; intro v' w' hr' hb')
      go_roundw
      case rel => exact ⟨k + 1, by omega, by go_num, Lib.hid (by rw [range_snoc, ints, List.map_append]; exact hr'.out), Lib.hid (hb.out.trans hb'.out)⟩
      case measure => simp [intOf]; omega
    · have hkn : n = k := by omega
      subst hkn
      obtain ⟨N, hN⟩ : ∃ N, n = N + 1 := ⟨n - 1, by omega⟩
      obtain ⟨g, cap, hcap, hv⟩ := row_shape (m := N) hr.out (by rw [ints_length, List.length_range]; exact hN)
      rw [← hN] at hv hcap
      subst hv
      have HR1 : Hid (Row wr w.heap.size (.slice (some ⟨g, 0, none⟩) n cap) (ints (pOut n s 1))) := hr
      have HB1 := hb
      clear hr hb hN hcap
      go_wp2
      go_loopw [7, 8] (fun t i wr => ∃ b : Nat, 1 ≤ b ∧ b ≤ n ∧ i = .int .i64 b ∧ t = .int .i64 (tri b : Nat) ∧ Hid (Row wr w.heap.size (.slice (some ⟨g, 0, none⟩) n cap) (ints (pOut n s b))) ∧ Hid (Below w.heap.size w wr)) (fun _ i _ => n - (intOf i).toNat)
      case atStart => exact ⟨1, Nat.le_refl _, hn1, rfl, rfl, HR1, HB1⟩
      case round =>
        obtain ⟨b, hb1, hbn, rfl, rfl, hr, hb⟩ := hrel
        by_cases hlt : b < n
        · have HP0 := Lib.hid (pOut_mem n s b (Nat.le_of_lt hlt))
          have HL0 := Lib.hid (pOut_length n s b)
          obtain ⟨P0, eP0⟩ : ∃ P0, P0 = pOut n s b := ⟨_, rfl⟩
          rw [← eP0] at hr HP0 HL0
          have EP0 := Lib.hid eP0
          obtain ⟨T0, eT0⟩ : ∃ T0, T0 = tri b := ⟨_, rfl⟩
          have hT0 : ∀ a, a < b → T0 + a < 15 := fun a ha => by rw [eT0]; exact tri_small ⟨b, by omega⟩ ⟨a, by omega⟩ ha
          have hT1 : T0 + b = tri (b + 1) := by rw [eT0]; rfl
          have HT0 := Lib.hid hT0
          have HT1 := Lib.hid hT1
          have HE0 := Lib.hid eT0
          rw [← eT0]
          clear eP0 hT0 hT1 eT0
          go_wp2
          go_loopw [7, 9] (fun t i wr => ∃ a : Nat, a ≤ b ∧ i = .int .i64 a ∧ t = .int .i64 (T0 + a : Nat) ∧ Hid (Row wr w.heap.size (.slice (some ⟨g, 0, none⟩) n cap) (ints (pIn s b P0 a))) ∧ Hid (Below w.heap.size w wr)) (fun _ i _ => b - (intOf i).toNat)
          case atStart => exact ⟨0, Nat.zero_le _, rfl, rfl, hr, hb⟩
          case round =>
            obtain ⟨a, hab, rfl, rfl, hr, hb⟩ := hrel
            by_cases hla : a < b
            · have HPL := Lib.hid ((pIn_length s b P0 a).trans HL0.out)
              have hst := pIn_succ s b P0 a n HPL.out
              rw [← HE0.out] at hst
              have hT := HT0.out a hla
              obtain ⟨P, eP⟩ : ∃ P, P = pIn s b P0 a := ⟨_, rfl⟩
              rw [← eP] at hr HPL hst
              obtain ⟨T, eT⟩ : ∃ T, T = T0 + a := ⟨_, rfl⟩
              rw [← eT] at hst hT ⊢
              obtain ⟨bit, ebit, hbit, fb⟩ := and_facts s T (by omega)
              rw [← ebit] at hst
              have hca := hr.out.cellAt a (by rw [ints_length, HPL.out]; omega)
              have hcb := hr.out.cellAt b (by rw [ints_length, HPL.out]; omega)
              rw [ints_at (by rw [HPL.out]; omega)] at hca hcb
              obtain ⟨x, ex⟩ : ∃ x, x = at_ P a := ⟨_, rfl⟩
              obtain ⟨y, ey⟩ : ∃ y, y = at_ P b := ⟨_, rfl⟩
              rw [← ex] at hca
              rw [← ey] at hcb
              have hi1 : (0 : Int) ≤ (a : Int) ∧ (a : Int) < (n : Int) := by omega
              have hi2 : (0 : Int) ≤ (b : Int) ∧ (b : Int) < (n : Int) := by omega
              have HST := Lib.hid hst
              have HX := Lib.hid ex
              have HY := Lib.hid ey
              have ET := Lib.hid eT
              have hr0 : Hid (Row wr w.heap.size (.slice (some ⟨g, 0, none⟩) n cap) (ints (pvIf bit P a b 0))) := Lib.hid (by unfold pvIf; rw [pvTo_zero]; simp only [ite_self]; exact hr.out)
              clear hst ex ey eT ebit eP hr
              go_wp2
              go_loopw [12] (fun i wr => ∃ v : Nat, v ≤ n ∧ (bit = 0 → v = 0) ∧ i = .int .i64 v ∧ Hid (Row wr w.heap.size (.slice (some ⟨g, 0, none⟩) n cap) (ints (pvIf bit P a b v))) ∧ Hid (Below w.heap.size w wr)) (fun i _ => n - (intOf i).toNat)
              case atStart => exact ⟨0, Nat.zero_le _, fun _ => rfl, rfl, hr0, hb⟩
              case round =>
                obtain ⟨v, hvn, hv0, rfl, hr, hb⟩ := hrel
                rcases (by omega : bit = 0 ∨ bit = 1) with rfl | rfl
                · obtain rfl := hv0 rfl
                  have hr2 : Hid (Row wr w.heap.size (.slice (some ⟨g, 0, none⟩) n cap) (ints (pIn s b P0 (a + 1)))) := Lib.hid (by rw [HST.out]; exact hr.out)
                  clear hr hr0 hbit hv0
                  go_wp2
                  go_roundw
                  case rel => exact ⟨a + 1, by omega, by go_num, by rw [ET.out]; go_num, hr2, hb⟩
                  case measure => simp [intOf]; omega
                · have hr3 : Hid (Row wr w.heap.size (.slice (some ⟨g, 0, none⟩) n cap) (ints (pvTo P a b v))) := hr
                  clear hr hv0 hr0 hbit
                  by_cases hlv : v < n
                  · have hlen : (pvTo P a b v).length = n := (pvTo_length P a b v (by rw [HPL.out]; omega)).trans HPL.out
                    have hcv := hr3.out.cellAt v (by rw [ints_length, hlen]; exact hlv)
                    have hcf := hr3.out.frozenAt v (by rw [ints_length, hlen]; exact hlv)
                    rw [ints_at (by rw [hlen]; exact hlv), pvTo_get P a b v (by rw [HPL.out]; exact hlv)] at hcv
                    obtain ⟨z, ez⟩ : ∃ z, z = at_ P v := ⟨_, rfl⟩
                    rw [← ez] at hcv
                    have hi3 : (0 : Int) ≤ (v : Int) ∧ (v : Int) < (n : Int) := by omega
                    have HLEN := Lib.hid hlen
                    have EZ := Lib.hid ez
                    clear hlen ez hca hcb
                    by_cases hzm : z = x ∨ z = y
                    · have hrs : ∀ m : Nat, m = min x y → Row (wr.setCell ⟨g, v, none⟩ (.int .i64 (m : Int))) w.heap.size (.slice (some ⟨g, 0, none⟩) n cap) (ints (pvIf 1 P a b (v + 1))) := fun m hm => by
                        have h := hr3.out.set v (by rw [ints_length, HLEN.out]; exact hlv) (m : Int)
                        rw [ints_set] at h
                        show Row _ _ _ (ints (pvTo P a b (v + 1)))
                        rw [pvTo_hit P a b v (by rw [HPL.out]; exact hlv) (by rw [← EZ.out, ← HX.out, ← HY.out]; exact hzm), ← HX.out, ← HY.out, ← hm]
                        exact h
                      have hgb : w.heap.size ≤ g := (hr3.out.lt g rfl).1
                      have hbs : ∀ u, Below w.heap.size w (wr.setCell ⟨g, v, none⟩ u) := fun u => hb.out.setCell (p := ⟨g, v, none⟩) hgb u
                      have HRS := Lib.hid hrs
                      have HBS := Lib.hid hbs
                      clear hrs hbs hr3 hgb hb
                      have e1 : ((z : Int) == (x : Int)) = decide (z = x) := by rw [Bool.eq_iff_iff]; simp; omega
                      have e2 : ((z : Int) == (y : Int)) = decide (z = y) := by rw [Bool.eq_iff_iff]; simp; omega
                      by_cases hxy : x < y
                      · have d1 : decide ((x : Int) < (y : Int)) = true := by simp; omega
                        have d2 : decide ((y : Int) < (x : Int)) = false := by simp; omega
                        have hm : x = min x y := by omega
                        have HM := Lib.hid hm
                        clear hm
                        by_cases hzx : z = x
                        · rw [decide_eq_true hzx] at e1
                          clear hzx hzm
                          go_wp2
                          go_roundw
                          case rel => exact ⟨v + 1, by omega, fun h => absurd h (by decide), by go_num, Lib.hid (HRS.out x HM.out), Lib.hid (HBS.out _)⟩
                          case measure => simp [intOf]; omega
                        · rw [decide_eq_false hzx] at e1
                          rw [decide_eq_true (by omega : z = y)] at e2
                          clear hzx hzm
                          go_wp2
                          go_roundw
                          case rel => exact ⟨v + 1, by omega, fun h => absurd h (by decide), by go_num, Lib.hid (HRS.out x HM.out), Lib.hid (HBS.out _)⟩
                          case measure => simp [intOf]; omega
                      · have d1 : decide ((x : Int) < (y : Int)) = false := by simp; omega
                        have hm : y = min x y := by omega
                        have HM := Lib.hid hm
                        have HMM := Lib.hid (show (if y < x then (y : Int) else (x : Int)) = (y : Int) by split <;> omega)
                        clear hm
                        by_cases hzx : z = x
                        · rw [decide_eq_true hzx] at e1
                          clear hzx hzm
                          go_wp2
                          go_roundw
                          case rel => exact ⟨v + 1, by omega, fun h => absurd h (by decide), by go_num, Lib.hid (by rw [HMM.out]; exact HRS.out y HM.out), Lib.hid (HBS.out _)⟩
                          case measure => simp [intOf]; omega
                        · rw [decide_eq_false hzx] at e1
                          rw [decide_eq_true (by omega : z = y)] at e2
                          clear hzx hzm
                          go_wp2
                          go_roundw
                          case rel => exact ⟨v + 1, by omega, fun h => absurd h (by decide), by go_num, Lib.hid (by rw [HMM.out]; exact HRS.out y HM.out), Lib.hid (HBS.out _)⟩
                          case measure => simp [intOf]; omega
                    · have hr2 : Hid (Row wr w.heap.size (.slice (some ⟨g, 0, none⟩) n cap) (ints (pvIf 1 P a b (v + 1)))) := Lib.hid (by
                        show Row _ _ _ (ints (pvTo P a b (v + 1)))
                        rw [pvTo_same P a b v (by rw [HPL.out]; exact hlv) (by rw [← EZ.out, ← HX.out, ← HY.out]; exact hzm)]
                        exact hr3.out)
                      have e1 : ((z : Int) == (x : Int)) = false := by simp; omega
                      have e2 : ((z : Int) == (y : Int)) = false := by simp; omega
                      clear hzm hr3
                      go_wp2
                      go_roundw
                      case rel => exact ⟨v + 1, by omega, fun h => absurd h (by decide), by go_num, hr2, hb⟩
                      case measure => simp [intOf]; omega
                  · have hve : v = n := by omega
                    subst hve
                    have hr2 : Hid (Row wr w.heap.size (.slice (some ⟨g, 0, none⟩) v cap) (ints (pIn s b P0 (a + 1)))) := Lib.hid (by rw [HST.out]; exact hr3.out)
                    clear hr3
                    go_wp2
                    go_roundw
                    case rel => exact ⟨a + 1, by omega, by go_num, by rw [ET.out]; go_num, hr2, hb⟩
                    case measure => simp [intOf]; omega
            · have hae : a = b := by omega
              subst hae
              have hr2 : Hid (Row wr w.heap.size (.slice (some ⟨g, 0, none⟩) n cap) (ints (pOut n s (a + 1)))) := Lib.hid (by
                show Row wr w.heap.size _ (ints (pIn s a (pOut n s a) a))
                rw [← EP0.out]; exact hr.out)
              clear hr
              go_wp2
              go_roundw
              case rel => exact ⟨a + 1, by omega, by omega, by go_num, by rw [HT1.out], hr2, hb⟩
              case measure => simp [intOf]; omega
        · have hbe : b = n := by omega
          subst hbe
          go_wp2
          go_ret
          exact ⟨_, rfl, hr.out, hb.out⟩

theorem specRank_any (n s : Nat) (hn1 : 1 ≤ n) (hn5 : n ≤ 5) (hs : s < codesN n) (w : World) :
    Calls Tryd.prog 38 #[.int .i64 n, .int .i64 s] w (NumB w (rkT s)) := by
  have hle := codesN_le n
  have H1 := Lib.hid (parts_any n s hn1 (by omega) (by omega) w)
  have hrk := rkL_eq hn1 hn5 hs
  unfold rkL at hrk
  have hl := pOut_length n s n
  have hm := pOut_mem n s n (Nat.le_refl _)
  obtain ⟨P, eP⟩ : ∃ P, P = pOut n s n := ⟨_, rfl⟩
  rw [← eP] at H1 hrk hl hm
  have HRK := Lib.hid hrk
  have HL := Lib.hid hl
  have HM := Lib.hid hm
  clear hrk hl hm eP hle
  go_enter Tryd.func38, Tryd.ntmps38
  go_wp2_with fail
  refine H1.out.mono ?_
  rintro e w1 ⟨v, rfl, hr, b1⟩
  obtain ⟨N, hN⟩ : ∃ N, n = N + 1 := ⟨n - 1, by omega⟩
  obtain ⟨g, cap, hcap, hv⟩ := row_shape (m := N) hr (by rw [ints_length, HL.out]; exact hN)
  rw [← hN] at hv hcap
  subst hv
  have HR := Lib.hid hr
  have B1 := Lib.hid b1
  clear hr b1 hN hcap
  go_wp2
  go_loop [6, 7] (fun r i => ∃ k : Nat, k ≤ n ∧ i = .int .i64 k ∧ r = .int .i64 (rankTo P k : Nat)) (fun _ i => n - (intOf i).toNat)
  case atStart => exact ⟨0, Nat.zero_le _, rfl, rfl⟩
  case round =>
    obtain ⟨k, hk, rfl, rfl⟩ := hrel
    by_cases hlt : k < n
    · have hck := HR.out.cellAt k (by rw [ints_length, HL.out]; exact hlt)
      rw [ints_at (by rw [HL.out]; exact hlt)] at hck
      have hst := rankTo_at P k
      have hle := rankTo_le P k
      obtain ⟨z, ez⟩ : ∃ z, z = at_ P k := ⟨_, rfl⟩
      rw [← ez] at hck hst
      obtain ⟨r, er⟩ : ∃ r, r = rankTo P k := ⟨_, rfl⟩
      rw [← er] at hst hle ⊢
      have hi1 : (0 : Int) ≤ (k : Int) ∧ (k : Int) < (n : Int) := by omega
      have HST := Lib.hid hst
      clear hst ez er
      by_cases hzk : z = k
      · have e1 : ((z : Int) != (k : Int)) = false := by simp; omega
        have hs2 := Lib.hid (show rankTo P (k + 1) = r by rw [HST.out, if_pos hzk]; rfl)
        clear hzk HST
        go_wp2
        go_round
        case rel => exact ⟨k + 1, by omega, by go_num, by rw [hs2.out]⟩
        case measure => simp [intOf]; omega
      · have e1 : ((z : Int) != (k : Int)) = true := by simp; omega
        have hs2 := Lib.hid (show rankTo P (k + 1) = r + 1 by rw [HST.out, if_neg hzk])
        clear hzk HST
        go_wp2
        go_round
        case rel => exact ⟨k + 1, by omega, by go_num, by rw [hs2.out]; go_num⟩
        case measure => simp [intOf]; omega
    · have hke : k = n := by omega
      subst hke
      go_wp2
      go_ret
      exact ⟨by rw [HRK.out]; rfl, B1.out⟩
end Go.Proofs.YtamabhdbcmjbjaaDoor
