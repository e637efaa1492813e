/- The model's GraphLinked. -/
import Derived.Test.YtneglpklkmoclaaDoorBaseA
namespace Go.Proofs.YtneglpklkmoclaaDoor
open Go.RowKit
set_option linter.unusedVariables false


/-- What one node's round asks. -/
theorem lk_step {L : List Int} (hg : IsGraph L) {s y q : Nat} (hs : s < 64) (hy : y < L.length) (hq : turn L s y = q) :
    ∃ X bit r : Nat, q < 64 ∧ L[y]?.getD 0 = (X : Int) ∧ (bit = 0 ∨ bit = 1) ∧ bits .and .i64 ((q : Int) / 2 ^ y) 1 = (bit : Int) ∧ bits .or .i64 (q : Int) (X : Int) = (r : Int) ∧ r < 64 ∧ turn L s (y + 1) = (if bit = 1 then r else q) := by
  have h6 := hg.2.1
  have hin := (hg.2.2 y hy).1
  have hX := ent_int hin
  have hXl := ent_lt hin
  have h64 := two_le h6
  have hq64 : q < 64 := by
    rw [← hq]
    exact turn_lt (m := 6) hs (fun v hv => by have h1 := ent_lt (hg.2.2 v hv).1; omega) y (by omega)
  obtain ⟨bit, eb, hb1, f1⟩ := and_facts q y (by omega)
  have f2 := i64_or_nat q (ent L y) (by omega) (by omega)
  have hr : q ||| ent L y < 2 ^ 6 := Nat.or_lt_two_pow hq64 (by omega)
  refine ⟨ent L y, bit, q ||| ent L y, hq64, hX, by omega, f1, f2, hr, ?_⟩
  rw [turn_succ, hq]
  unfold grow
  by_cases h : q.testBit y = true
  · rw [if_pos h, if_pos (by rw [eb]; exact (bit_test2 q y).1 h)]
  · rw [if_neg h, if_neg (fun e => h ((bit_test2 q y).2 (by rw [← eb]; exact e)))]

set_option maxHeartbeats 1000000 in
theorem specLinked_no (B : Nat) (v : Value) (L : List Int) (hL : ¬ IsGraph L) (w : World) (h : Row w B v L) :
    Calls Tryd.prog 51 #[v] w (Looked w false) := by
  have H1 := Lib.hid (specIn_any B v L false ⟨fun h => (by cases h), fun h => absurd h hL⟩ w h)
  clear hL h
  go_enter Tryd.func51, Tryd.ntmps51
  go_wp2_with fail
  refine H1.out.mono ?_
  rintro e w1 ⟨rfl, d, rfl⟩
  go_wp2
  go_ret
  exact ⟨rfl, d, rfl⟩
set_option maxHeartbeats 2000000 in
theorem specLinked_yes (B : Nat) (v : Value) (L : List Int) (hg : IsGraph L) (w : World) (h : Row w B v L) :
    Calls Tryd.prog 51 #[v] w (Looked w (decide (turns L L.length = 2 ^ L.length - 1))) := by
  have h1 := hg.1
  have h6 := hg.2.1
  have H1 := Lib.hid (specIn_any B v L true ⟨fun _ => hg, fun _ => rfl⟩ w h)
  obtain ⟨A, c, rfl, hs⟩ := h.seen
  obtain ⟨P, Q, hP, hQ, hP64, p1, p2, p3, p4, p5⟩ := shl_facts L.length h6
  have hQ2 : 2 ^ L.length - 1 = Q := by omega
  rw [hQ2]
  obtain ⟨n, hn⟩ : ∃ n, n = L.length := ⟨_, rfl⟩
  rw [← hn] at h1 h6 H1 p1 p2 ⊢
  have HN := Lib.hid hn
  have H := Lib.hid hs
  have HG := Lib.hid hg
  clear h hg hn hs hP hQ hQ2
  go_enter Tryd.func51, Tryd.ntmps51
  go_wp2_with fail
  refine H1.out.mono ?_
  rintro e w1 ⟨rfl, d, rfl⟩
  have HD : Hid (Seen (w.drewN d) A L) := Lib.hid H.out
  have hqq := Lib.hid (show Looked w (decide (turns L n = Q)) (.returned (.bool (decide (turns L n = Q)))) (w.drewN d) from ⟨rfl, d, rfl⟩)
  obtain ⟨wd, ewd⟩ : ∃ wd, wd = w.drewN d := ⟨_, rfl⟩
  rw [← ewd] at HD hqq ⊢
  clear ewd H H1
  go_wp2
  go_loop [3, 4] (fun s i => ∃ q k : Nat, k ≤ n ∧ q < 64 ∧ i = .int .i64 k ∧ s = .int .i64 q ∧ Hid (turns L k = q)) (fun _ i => n - (intOf i).toNat)
  case atStart => exact ⟨1, 0, Nat.zero_le _, by omega, rfl, rfl, Lib.hid rfl⟩
  case round =>
    obtain ⟨q, k, hk, hq64, rfl, rfl, hq⟩ := hrel
    by_cases hlt : k < n
    · go_wp2
      go_loop [3, 5] (fun s i => ∃ r y : Nat, y ≤ n ∧ r < 64 ∧ i = .int .i64 y ∧ s = .int .i64 r ∧ Hid (turn L q y = r)) (fun _ i => n - (intOf i).toNat)
      case atStart => exact ⟨q, 0, Nat.zero_le _, hq64, rfl, rfl, Lib.hid rfl⟩
      case round =>
        obtain ⟨r, y, hy, hr64, rfl, rfl, hr⟩ := hrel
        by_cases hly : y < n
        · obtain ⟨X, bit, r2, _, eX, hbit, f1, f2, hr2, f3⟩ := lk_step HG.out hq64 (show y < L.length by have := HN.out; omega) hr.out
          obtain ⟨blk, off, rfl, hbl, hc⟩ := HD.out y (by have := HN.out; omega)
          rw [eX] at hc
          have hi1 : (0 : Int) ≤ (y : Int) ∧ (y : Int) < (n : Int) := by omega
          have F3 := Lib.hid f3
          clear f3 eX hbl
          rcases hbit with rfl | rfl
          · go_wp2
            go_round
            case rel => exact ⟨r, y + 1, by omega, hr64, by go_num, rfl, Lib.hid (by rw [F3.out]; rfl)⟩
            case measure => simp [intOf]; omega
          · go_wp2
            go_round
            case rel => exact ⟨r2, y + 1, by omega, hr2, by go_num, by go_num, Lib.hid (by rw [F3.out]; rfl)⟩
            case measure => simp [intOf]; omega
        · have hyn : y = n := by omega
          subst hyn
          go_wp2
          go_round
          case rel => exact ⟨r, k + 1, by omega, hr64, by go_num, rfl, Lib.hid (by rw [← hr.out, ← hq.out, HN.out]; rfl)⟩
          case measure => simp [intOf]; omega
    · have hkn : k = n := by omega
      subst hkn
      have e : ((q : Int) == (Q : Int)) = decide (turns L k = Q) := by rw [hq.out, Bool.eq_iff_iff]; simp; omega
      go_wp2
      go_ret
      exact hqq.out
end Go.Proofs.YtneglpklkmoclaaDoor
