/- The model's SetWatch. -/
import Derived.Test.YtfhaeocgbihddaaDoorBaseS
import Derived.Test.YtfhaeocgbihddaaDoorBaseA
namespace Go.Proofs.YtfhaeocgbihddaaDoor
open Go Go.RowKit
set_option linter.unusedVariables false
set_option maxRecDepth 100000

theorem specWa_no (B : Nat) (v : Value) (L : List Int) (hg : ¬ IsGraph L) (w : World) (h : Row w B v L) :
    Calls Tryd.prog 16 #[v] w (NumOkA w 0 false) := by
  have H1 := Lib.hid (specIn_any B v L false ⟨fun h => (by cases h), fun h => absurd h hg⟩ w h)
  obtain ⟨A, c, rfl, hs⟩ := h.seen
  clear hg h
  go_enter Tryd.func16, Tryd.ntmps16
  go_wp2_with fail
  refine H1.out.mono ?_
  rintro e w1 ⟨rfl, d, rfl⟩
  go_wp2
  go_ret2
  exact ⟨rfl, below_drewN (Below.refl _ w) d⟩
theorem min_nat3 (x y : Nat) : ((x : Int) < (y : Int) → min x y = x) ∧ (¬ (x : Int) < (y : Int) → min x y = y) := by omega
/-- The fewest up to some set. -/
def mnTo (L : List Int) (t : Nat) : Nat := mn (watB L) L.length (List.range t)
theorem mnTo_succ (L : List Int) (t : Nat) : mnTo L (t + 1) = mnStep (watB L) (mnTo L t) t := by unfold mnTo; rw [List.range_succ, mn_snoc]
set_option maxHeartbeats 2000000 in
theorem specWa_yes (B : Nat) (v : Value) (L : List Int) (hg : IsGraph L) (w : World) (h : Row w B v L) :
    Calls Tryd.prog 16 #[v] w (NumOkA w (watchN L) true) := by
  have h1 := hg.1
  have h6 := hg.2.1
  have H1 := Lib.hid (specIn_any B v L true ⟨fun _ => hg, fun _ => rfl⟩ w h)
  obtain ⟨A, c, rfl, hs⟩ := h.seen
  obtain ⟨P, Q, hP, hQ, hP64, s1, s2, s3, s4, s5⟩ := shl_facts L.length h6
  obtain ⟨n, hn⟩ : ∃ n, n = L.length := ⟨_, rfl⟩
  have H : Hid (∀ d k, k < n → ∃ b off, A = some ⟨b, off, none⟩ ∧ (w.drewN d).cell? ⟨b, off + k, none⟩ = some (.int .i64 (ent L k : Nat)) ∧ ent L k < 64) := Lib.hid fun d k hk => by
    obtain ⟨b, off, a, _, hc⟩ := (hs.below (below_drewN (Below.refl _ _) d)) k (by omega)
    have hin := (hg.2.2 k (by omega)).1
    rw [ent_int hin] at hc
    exact ⟨b, off, a, hc, Nat.lt_of_lt_of_le (ent_lt hin) (two_le h6)⟩
  have HW : Hid (watchN L = mnTo L P) := Lib.hid (by unfold watchN mnTo allS; rw [hP])
  have HM : Hid (∀ s k, s < P → k ≤ n → metTo L s k < 64) := Lib.hid fun s k a b => Nat.lt_of_lt_of_le (metTo_lt hg (by omega) k (by omega)) (two_le h6)
  have HX : Hid (∀ s k, metTo L s (k + 1) = metStep L s (metTo L s k) k) := Lib.hid (metTo_succ L)
  have HB : Hid (∀ s, watB L s = (metTo L s n == Q)) := Lib.hid fun s => by unfold watB; rw [hn, show 2 ^ L.length - 1 = Q by omega]
  have HS := Lib.hid (mnTo_succ L)
  have HL : Hid (∀ t, mnTo L t ≤ 6) := Lib.hid fun t => Nat.le_trans (mn_facts (watB L) L.length (List.range t)).2.1 h6
  have H0 : Hid (mnTo L 0 = n) := Lib.hid (by rw [hn]; rfl)
  rw [← hn] at h1 h6 s1 s2
  rw [← hn] at H1
  clear h hg hs hP
  rw [HW.out]
  rw [← hn]
  clear hn
  go_enter Tryd.func16, Tryd.ntmps16
  go_wp2_with fail
  refine H1.out.mono ?_
  rintro e w1 ⟨rfl, d, rfl⟩
  have BB := Lib.hid (below_drewN (Below.refl w.heap.size w) d)
  have HD := Lib.hid (H.out d)
  obtain ⟨wd, ewd⟩ : ∃ wd, wd = w.drewN d := ⟨_, rfl⟩
  rw [← ewd] at BB HD ⊢
  clear ewd H H1
  go_wp2
  go_loop [4, 5, 6, 7] (fun m i _ _ => ∃ t : Nat, t ≤ P ∧ i = .int .i64 t ∧ m = .int .i64 (mnTo L t : Nat)) (fun _ i _ _ => P - (intOf i).toNat)
  case atStart => exact ⟨0, Nat.zero_le _, rfl, by rw [H0.out]⟩
  case round =>
    obtain ⟨t, ht, rfl, rfl⟩ := hrel
    have hl := HL.out t
    obtain ⟨m, em⟩ : ∃ m, m = mnTo L t := ⟨_, rfl⟩
    have hst := HS.out t
    unfold mnStep at hst
    rw [HB.out t, ← em] at hst
    have EM := Lib.hid em
    rw [← em] at hl ⊢
    clear em
    by_cases hlt : t < P
    · have ht64 : t < 64 := by omega
      have G := Lib.hid (size_code t (by omega) wd)
      have hp := pcf_le 15 t
      obtain ⟨q, eq⟩ : ∃ q, q = pcf 15 t := ⟨_, rfl⟩
      rw [← eq] at G hst hp
      have HST := Lib.hid hst
      have HMT := Lib.hid (fun k hk => HM.out t k hlt hk)
      clear eq hst
      go_wp2
      go_loop [6, 7] (fun x j => ∃ k : Nat, k ≤ n ∧ j = .int .i64 k ∧ x = .int .i64 (metTo L t k : Nat)) (fun _ j => n - (intOf j).toNat)
      case atStart => exact ⟨0, Nat.zero_le _, rfl, rfl⟩
      case round =>
        obtain ⟨k, hk, rfl, rfl⟩ := hrel
        have hx64 := HMT.out k hk
        have hnx := HX.out t k
        unfold metStep at hnx
        obtain ⟨x, ex⟩ : ∃ x, x = metTo L t k := ⟨_, rfl⟩
        have EX := Lib.hid ex
        rw [← ex] at hx64 hnx ⊢
        by_cases hlk : k < n
        · obtain ⟨b, off, rfl, hc, hX⟩ := HD.out k hlk
          obtain ⟨r, er, hr, fr⟩ := and_facts t k (by omega)
          have hin := inS_bit er
          rw [hin] at hnx
          obtain ⟨X, eX⟩ : ∃ X, X = ent L k := ⟨_, rfl⟩
          rw [← eX] at hc hX hnx
          have hor := i64_or_nat x X (by omega) (by omega)
          have hk40 : k < 40 := by omega
          clear ex er eX hin
          rcases (show r = 0 ∨ r = 1 by omega) with rfl | rfl
          · have e0 : (((0 : Nat) : Int) == 1) = false := rfl
            have HN := Lib.hid (hnx.trans (if_neg (by simp)))
            clear hnx hor
            go_wp2
            go_round
            case rel => exact ⟨k + 1, by omega, by go_num, by rw [HN.out]⟩
            case measure => simp [intOf]; omega
          · have e0 : (((1 : Nat) : Int) == 1) = true := rfl
            have HN := Lib.hid (hnx.trans (if_pos (by simp)))
            obtain ⟨y, ey⟩ : ∃ y, y = x ||| X := ⟨_, rfl⟩
            rw [← ey] at hor HN
            clear hnx ey
            go_wp2
            go_round
            case rel => exact ⟨k + 1, by omega, by go_num, by rw [HN.out]⟩
            case measure => simp [intOf]; omega
        · have hke : k = n := by omega
          subst hke
          have HST2 := HST.out
          rw [← EX.out] at HST2
          clear hnx ex
          have hmin := min_nat3 m q
          by_cases hxq : x = Q
          · have e0 : ((x : Int) == (Q : Int)) = true := by simp [hxq]
            have HN := Lib.hid (HST2.trans (if_pos (by simp [hxq])))
            clear HST2 hxq
            go_wp2_with fail
            refine G.out.mono ?_
            rintro e w1 ⟨rfl, rfl⟩
            go_wp2
            go_round
            case rel => exact ⟨t + 1, by omega, by go_num, by rw [HN.out]; congr 1; split <;> omega⟩
            case measure => simp [intOf]; omega
          · have e0 : ((x : Int) == (Q : Int)) = false := by simp; omega
            have HN := Lib.hid (HST2.trans (if_neg (by simp [hxq])))
            clear HST2 hxq
            go_wp2
            go_round
            case rel => exact ⟨t + 1, by omega, by go_num, by rw [HN.out]⟩
            case measure => simp [intOf]; omega
    · have hke : t = P := by omega
      subst hke
      clear hst
      go_wp2
      go_ret2
      exact ⟨by rw [← EM.out]; rfl, BB.out⟩
end Go.Proofs.YtfhaeocgbihddaaDoor
