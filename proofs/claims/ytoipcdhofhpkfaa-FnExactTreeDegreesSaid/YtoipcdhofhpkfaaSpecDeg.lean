/- The model's TreeDegrees. -/
import Derived.Test.YtoipcdhofhpkfaaTreeDegMath
import Derived.Test.YtoipcdhofhpkfaaTreeMany
namespace Go.Proofs.Ytoipcdhofhpkfaa
open Go Go.RowKit
set_option linter.unusedVariables false
set_option maxRecDepth 100000

theorem min_nat (x y : Nat) : ((x : Int) < (y : Int) → min x y = x) ∧ (¬ (x : Int) < (y : Int) → min x y = y) := by omega
set_option maxHeartbeats 4000000 in
theorem specDeg_in (A : Option Addr) (c : Nat) (L : List Int) (hI : InD L) (w : World) (h : Seen w A L) :
    Calls Try.prog 7 #[.slice A L.length c] w (ManyP w (treesD L, true)) := by
  obtain ⟨n, hn⟩ : ∃ n, n = L.length := ⟨_, rfl⟩
  have h1 := hI.1.1
  have h6 := hI.1.2
  have hD := hI.2
  have hT : treesD L = if n = 1 then 1 - min 1 (dN L 0) else if sumD L n = 2 * n - 2 ∧ 1 ≤ leastD L n then quoD L n n else 0 := by rw [hn]; rfl
  rw [← hn] at h1 h6 hD ⊢
  have H : Hid (∀ k, k < n → ∃ b off, A = some ⟨b, off, none⟩ ∧ w.cell? ⟨b, off + k, none⟩ = some (.int .i64 (dN L k : Nat))) := Lib.hid fun k hk => by
    obtain ⟨b, off, a, _, hc⟩ := h k (by omega)
    rw [(okD_int (hD k hk)).1] at hc
    exact ⟨b, off, a, hc⟩
  have HD := Lib.hid fun k hk => (okD_int (hD k hk)).2
  have HS := Lib.hid fun k (hk : k ≤ n) => sumD_le (L := L) (k := k) fun j hj => hD j (by omega)
  have HT := Lib.hid hT
  clear hI h hn hD hT
  go_enter Try.func7, Try.ntmps7
  go_wp2_with fail
  refine (in_yes _ _ _ _ (by omega) (by omega)).mono ?_
  rintro e w1 ⟨rfl, rfl⟩
  go_wp2
  go_loop [5, 6, 7] (fun s m i => ∃ k : Nat, k ≤ n ∧ i = .int .i64 k ∧ s = .int .i64 (sumD L k : Nat) ∧ m = .int .i64 (leastD L k : Nat)) (fun _ _ i => n - (intOf i).toNat)
  case atStart => exact ⟨0, Nat.zero_le _, rfl, rfl, rfl⟩
  case round =>
    obtain ⟨k, hk, rfl, rfl, rfl⟩ := hrel
    by_cases hlt : k < n
    · obtain ⟨b, off, rfl, hc⟩ := H.out k hlt
      have hd6 := HD.out k hlt
      have hs := HS.out k hk
      have hl := leastD_le L k
      have e1 : sumD L (k + 1) = sumD L k + dN L k := rfl
      have e2 : leastD L (k + 1) = min (leastD L k) (dN L k) := rfl
      have em := min_nat (leastD L k) (dN L k)
      obtain ⟨d, ed⟩ : ∃ d, d = dN L k := ⟨_, rfl⟩
      obtain ⟨s, es⟩ : ∃ s, s = sumD L k := ⟨_, rfl⟩
      obtain ⟨m, em'⟩ : ∃ m, m = leastD L k := ⟨_, rfl⟩
      rw [← ed] at hc hd6 e1 e2 em
      rw [← es] at hs e1 ⊢
      rw [← em'] at hl e2 em ⊢
      have hi1 : (0 : Int) ≤ (k : Int) ∧ (k : Int) < (n : Int) := by omega
      have E1 := Lib.hid e1
      have hs36 : s ≤ 36 := by omega
      clear ed es em' e1 hs
      have E2 := Lib.hid e2
      clear e2 em
      go_wp2_with fail
      refine (in_yes _ _ _ _ (by omega) (by omega)).mono ?_
      rintro e w1 ⟨rfl, rfl⟩
      go_wp2
      go_round
      case rel => exact ⟨k + 1, by omega, by go_num, by rw [E1.out]; go_num, by rw [E2.out]; congr 1; split <;> omega⟩
      case measure => simp [intOf]; omega
    · have hke : k = n := by omega
      subst hke
      have hs := HS.out k (Nat.le_refl _)
      have hl := leastD_le L k
      by_cases hk1 : k = 1
      · have hd : ((k : Int) == 1) = true := by simp; omega
        have hT2 : treesD L = 1 - min 1 (dN L 0) := by rw [HT.out, if_pos hk1]
        obtain ⟨b, off, rfl, hc⟩ := H.out 0 (by omega)
        rw [Nat.add_zero] at hc
        have hd6 := HD.out 0 (by omega)
        obtain ⟨d, ed⟩ : ∃ d, d = dN L 0 := ⟨_, rfl⟩
        rw [← ed] at hc hd6 hT2
        have hi1 : (0 : Int) < (k : Int) := by omega
        have T2 := Lib.hid hT2
        clear hT2 ed hs hl
        have K1 := Lib.hid hk1
        clear hk1 hlt hk
        by_cases h0 : d = 0
        · have hd1 : decide ((1 : Int) < (d : Int)) = false := by simp; omega
          subst h0
          go_wp2
          go_ret2
          exact ⟨by rw [T2.out]; rfl, rfl⟩
        · have e1 : 1 - min 1 d = 0 := by omega
          rw [e1] at T2
          by_cases h1' : d = 1
          · subst h1'
            have hd1 : decide ((1 : Int) < ((1 : Nat) : Int)) = false := by simp
            go_wp2
            go_ret2
            exact ⟨by rw [T2.out]; rfl, rfl⟩
          · have hd1 : decide ((1 : Int) < (d : Int)) = true := by simp; omega
            go_wp2
            go_ret2
            exact ⟨by rw [T2.out]; rfl, rfl⟩
      · have hd : ((k : Int) == 1) = false := by simp; omega
        have hT2 := HT.out
        rw [if_neg hk1] at hT2
        by_cases hq : sumD L k = 2 * k - 2 ∧ 1 ≤ leastD L k
        · rw [if_pos hq] at hT2
          have hPos := leastD_pos.1 hq.2
          have hq1 : ((sumD L k : Int) != 2 * (k : Int) - 2) = false := by simp; omega
          have hq2 : decide ((leastD L k : Int) < 1) = false := by simp; omega
          obtain ⟨s, es⟩ : ∃ s, s = sumD L k := ⟨_, rfl⟩
          obtain ⟨m, em⟩ : ∃ m, m = leastD L k := ⟨_, rfl⟩
          rw [← es] at hs hq1 ⊢
          rw [← em] at hl hq2 ⊢
          have T2 := Lib.hid hT2
          have HP := Lib.hid hPos
          clear hq hT2 hPos es em
          have hk2 : 2 ≤ k := by omega
          have hw2 : wrap64 ((k : Int) - 2) = (k : Int) - 2 := by unfold wrap64; omega
          clear hk1 hlt
          go_wp2
          have hq6 := quoD_le L k h6
          go_loop [8, 9] (fun p i => ∃ j : Nat, (j = 1 ∨ j + 2 ≤ k) ∧ 1 ≤ j ∧ i = .int .i64 ((j : Int) + 1) ∧ p = .int .i64 (fac j : Nat)) (fun _ i => k - (intOf i).toNat)
          case atStart => exact ⟨1, .inl rfl, Nat.le_refl _, rfl, rfl⟩
          case round =>
            obtain ⟨j, hj, hj1, rfl, rfl⟩ := hrel
            obtain ⟨x, ex⟩ : ∃ x, x = fac j := ⟨_, rfl⟩
            have hx := fac_le ⟨j, by omega⟩
            dsimp only at hx
            rw [← ex] at hx ⊢
            have EX := Lib.hid ex
            clear ex
            by_cases hlt : j + 1 ≤ k - 2
            · have hd1 : decide ((j : Int) + 1 ≤ (k : Int) - 2) = true := by simp; omega
              have hst := fac_step j x (by omega) hx EX.out
              go_wp2
              go_round
              case rel => exact ⟨j + 1, .inr (by omega), by omega, by congr 1, by rw [hst]⟩
              case measure => simp [intOf]; omega
            · have hd1 : decide ((j : Int) + 1 ≤ (k : Int) - 2) = false := by simp; omega
              have hfe : fac j = quoD L k 0 := by
                show fac j = fac (k - 2)
                by_cases hkk : k = 2
                · have hj' : j = 1 := by omega
                  rw [hkk, hj']; rfl
                · have hj' : j = k - 2 := by omega
                  rw [hj']
              have FE := Lib.hid (EX.out.trans hfe)
              clear hfe
              go_wp2
              go_loop [8, 10, 11] (fun p v i => ∃ t : Nat, t ≤ k ∧ v = .int .i64 t ∧ p = .int .i64 (quoD L k t : Nat)) (fun _ v _ => k - (intOf v).toNat)
              case atStart => exact ⟨0, Nat.zero_le _, rfl, by rw [FE.out]⟩
              case round =>
                obtain ⟨t, ht, rfl, rfl⟩ := hrel
                obtain ⟨q, eq⟩ : ∃ q, q = quoD L k t := ⟨_, rfl⟩
                have hq7 := quoD_le L k h6 t
                rw [← eq] at hq7 ⊢
                have EQ := Lib.hid eq
                clear eq
                by_cases htk : t < k
                · obtain ⟨b, off, rfl, hc⟩ := H.out t htk
                  have hd6 := HD.out t htk
                  have hdp := HP.out t htk
                  have eqs : quoD L k (t + 1) = q / fac (dN L t - 1) := by rw [EQ.out]; rfl
                  obtain ⟨d, ed⟩ : ∃ d, d = dN L t := ⟨_, rfl⟩
                  rw [← ed] at hc hd6 hdp eqs
                  have hi1 : (0 : Int) ≤ (t : Int) ∧ (t : Int) < (k : Int) := by omega
                  have EQS := Lib.hid eqs
                  clear ed eqs
                  go_wp2
                  go_loop [8, 11] (fun p i => ∃ j : Nat, (j = 1 ∨ j + 1 ≤ d) ∧ 1 ≤ j ∧ i = .int .i64 ((j : Int) + 1) ∧ p = .int .i64 (q / fac j : Nat)) (fun _ i => d - (intOf i).toNat)
                  case atStart => exact ⟨1, .inl rfl, Nat.le_refl _, rfl, by show _ = Value.int .i64 ((q / 1 : Nat) : Int); rw [Nat.div_one]⟩
                  case round =>
                    obtain ⟨i, hi, hi1', rfl, rfl⟩ := hrel
                    have hle := Nat.div_le_self q (fac i)
                    have hstep : q / fac i / (i + 1) = q / fac (i + 1) := quo_fac q (i + 1) (by omega)
                    obtain ⟨x, ex⟩ : ∃ x, x = q / fac i := ⟨_, rfl⟩
                    rw [← ex] at hle hstep ⊢
                    have EX2 := Lib.hid ex
                    have ST := Lib.hid hstep
                    clear ex hstep
                    by_cases hlt2 : i + 1 < d
                    · have hd2 : decide ((i : Int) + 1 < (d : Int)) = true := by simp; omega
                      have hqs := quo_small x (i + 1) (by omega)
                      rw [Int.natCast_add, Int.natCast_one] at hqs
                      have hnz : ((i : Int) + 1 == 0) = false := by simp; omega
                      go_wp2
                      go_round
                      case rel => exact ⟨i + 1, .inr (by omega), by omega, by congr 1, by rw [← ST.out]; first | rfl | rw [hqs] | (congr 1)⟩
                      case measure => simp [intOf]; omega
                    · have hd2 : decide ((i : Int) + 1 < (d : Int)) = false := by simp; omega
                      have hfe2 : fac i = fac (d - 1) := by
                        by_cases hdd : d ≤ 2
                        · have hi' : i = 1 := by omega
                          have hd' : d = 1 ∨ d = 2 := by omega
                          rcases hd' with e | e
                          · rw [hi', e]; rfl
                          · rw [hi', e]
                        · have hi' : i = d - 1 := by omega
                          rw [hi']
                      have FE2 := Lib.hid hfe2
                      clear hfe2
                      go_wp2
                      go_round
                      case rel => exact ⟨t + 1, by omega, by go_num, by rw [EQS.out, ← FE2.out, EX2.out]⟩
                      case measure => simp [intOf]; omega
                · have htk' : t = k := by omega
                  have hqt : q = treesD L := by rw [T2.out, EQ.out, htk']
                  have TK := Lib.hid hqt
                  clear htk' hqt
                  go_wp2
                  go_ret2
                  exact ⟨by rw [TK.out]; rfl, rfl⟩
        · rw [if_neg hq] at hT2
          have T2 := Lib.hid hT2
          clear hT2
          have hq' : sumD L k ≠ 2 * k - 2 ∨ leastD L k < 1 := by
            rcases Nat.lt_or_ge (leastD L k) 1 with h | h
            · exact .inr h
            · exact .inl fun e => hq ⟨e, h⟩
          clear hq
          obtain ⟨s, es⟩ : ∃ s, s = sumD L k := ⟨_, rfl⟩
          obtain ⟨m, em⟩ : ∃ m, m = leastD L k := ⟨_, rfl⟩
          rw [← es] at hs hq' ⊢
          rw [← em] at hl hq' ⊢
          clear es em
          by_cases hs1 : s = 2 * k - 2
          · have hq1 : ((s : Int) != 2 * (k : Int) - 2) = false := by simp; omega
            have hq2 : decide ((m : Int) < 1) = true := by simp; omega
            clear hs1 hq'
            go_wp2
            go_ret2
            exact ⟨by rw [T2.out]; rfl, rfl⟩
          · have hq1 : ((s : Int) != 2 * (k : Int) - 2) = true := by simp; omega
            clear hs1 hq'
            go_wp2
            go_ret2
            exact ⟨by rw [T2.out]; rfl, rfl⟩
/-- Where the length or a number is out of range. -/
theorem specDeg_size (A : Option Addr) (n c : Nat) (hn : ¬ (1 ≤ n ∧ n ≤ 6)) (w : World) :
    Calls Try.prog 7 #[.slice A n c] w (ManyP w (0, false)) := by
  have hd : decide ((1 : Int) ≤ (n : Int) ∧ (n : Int) ≤ 6) = false := by simp; omega
  go_enter Try.func7, Try.ntmps7
  go_wp2_with fail
  refine (in_any _ _ _ _).mono ?_
  rintro e w1 ⟨rfl, rfl⟩
  go_wp2
  go_ret2
  exact ⟨rfl, rfl⟩
set_option maxHeartbeats 1000000 in
theorem specDeg_out (A : Option Addr) (c : Nat) (L : List Int) (h1 : 1 ≤ L.length) (h6 : L.length ≤ 6) (hI : ¬ ∀ j, j < L.length → OkD L j) (w : World) (h : Seen w A L) :
    Calls Try.prog 7 #[.slice A L.length c] w (ManyP w (0, false)) := by
  obtain ⟨n, hn⟩ : ∃ n, n = L.length := ⟨_, rfl⟩
  rw [← hn] at h1 h6 hI ⊢
  have H : Hid (∀ k, k < n → ∃ b off, A = some ⟨b, off, none⟩ ∧ w.cell? ⟨b, off + k, none⟩ = some (.int .i64 (L[k]?.getD 0))) := Lib.hid fun k hk => by
    obtain ⟨b, off, a, _, hc⟩ := h k (by omega)
    exact ⟨b, off, a, hc⟩
  have HI := Lib.hid hI
  clear hI h hn
  go_enter Try.func7, Try.ntmps7
  go_wp2_with fail
  refine (in_yes _ _ _ _ (by omega) (by omega)).mono ?_
  rintro e w1 ⟨rfl, rfl⟩
  go_wp2
  go_loop [5, 6, 7] (fun s m i => ∃ k : Nat, k ≤ n ∧ i = .int .i64 k ∧ s = .int .i64 (sumD L k : Nat) ∧ m = .int .i64 (leastD L k : Nat) ∧ Hid (∀ j, j < k → OkD L j)) (fun _ _ i => n - (intOf i).toNat)
  case atStart => exact ⟨0, Nat.zero_le _, rfl, rfl, rfl, Lib.hid fun j hj => absurd hj (by omega)⟩
  case round =>
    obtain ⟨k, hk, rfl, rfl, rfl, hok⟩ := hrel
    have hlt : k < n := by
      rcases Nat.lt_or_ge k n with h | h
      · exact h
      · exact absurd (fun j hj => hok.out j (by omega)) HI.out
    obtain ⟨b, off, rfl, hc⟩ := H.out k hlt
    have hs := sumD_le hok.out
    have hl := leastD_le L k
    have hi1 : (0 : Int) ≤ (k : Int) ∧ (k : Int) < (n : Int) := by omega
    by_cases hd : OkD L k
    · have e1 : sumD L (k + 1) = sumD L k + dN L k := rfl
      have e2 : leastD L (k + 1) = min (leastD L k) (dN L k) := rfl
      obtain ⟨hdi, hd6⟩ := okD_int hd
      rw [hdi] at hc
      have OK : Hid (∀ j, j < k + 1 → OkD L j) := Lib.hid fun j hj => by
        by_cases e : j = k
        · rw [e]; exact hd
        · exact hok.out j (by omega)
      obtain ⟨d, ed⟩ : ∃ d, d = dN L k := ⟨_, rfl⟩
      obtain ⟨s, es⟩ : ∃ s, s = sumD L k := ⟨_, rfl⟩
      obtain ⟨m, em'⟩ : ∃ m, m = leastD L k := ⟨_, rfl⟩
      rw [← ed] at hc hd6 e1 e2
      rw [← es] at hs e1 ⊢
      rw [← em'] at hl e2 ⊢
      have E1 := Lib.hid e1
      have E2 := Lib.hid e2
      have hs36 : s ≤ 36 := by omega
      clear ed es em' e1 hs e2 hd hdi
      go_wp2_with fail
      refine (in_yes _ _ _ _ (by omega) (by omega)).mono ?_
      rintro e w1 ⟨rfl, rfl⟩
      go_wp2
      go_round
      case rel => exact ⟨k + 1, by omega, by go_num, by rw [E1.out]; go_num, by rw [E2.out]; congr 1; split <;> omega, OK⟩
      case measure => simp [intOf]; omega
    · obtain ⟨z, ez⟩ : ∃ z, z = L[k]?.getD 0 := ⟨_, rfl⟩
      unfold OkD at hd
      rw [← ez] at hc hd
      have hd0 : decide ((0 : Int) ≤ z ∧ z ≤ 6) = false := decide_eq_false hd
      clear hd ez
      go_wp2_with fail
      refine (in_any _ _ _ _).mono ?_
      rintro e w1 ⟨rfl, rfl⟩
      go_wp2
      go_ret2
      exact ⟨rfl, rfl⟩
theorem row_seen {w : World} {B : Nat} {v : Value} {xs : List Int} (h : Row w B v xs) : ∃ A c, v = .slice A xs.length c ∧ Seen w A xs := by
  obtain ⟨A, c, hv, hA⟩ := h.see
  refine ⟨A, c, hv, fun k hk => ?_⟩
  obtain ⟨g, hg, _, hc, _⟩ := hA k hk
  exact ⟨g, 0, hg, World.block_lt_of_cell? w _ hc, by rw [Nat.zero_add]; exact hc⟩
theorem degP_yes {L : List Int} (h : InD L) : degP L = (treesD L, true) := if_pos h
theorem degP_no {L : List Int} (h : ¬ InD L) : degP L = (0, false) := if_neg h
theorem specDeg_any (B : Nat) (v : Value) (L : List Int) (w : World) (h : Row w B v L) :
    Calls Try.prog 7 #[v] w (ManyP w (degP L)) := by
  obtain ⟨A, c, rfl, hs⟩ := row_seen h
  by_cases hI : InD L
  · rw [degP_yes hI]; exact specDeg_in A c L hI w hs
  · rw [degP_no hI]
    by_cases hn : 1 ≤ L.length ∧ L.length ≤ 6
    · exact specDeg_out A c L hn.1 hn.2 (fun h => hI ⟨hn, h⟩) w hs
    · exact specDeg_size A L.length c hn w
end Go.Proofs.Ytoipcdhofhpkfaa
