/- GraphOf answers as its model does, for all numbers: a list of its own memory, which later calls leave alone. -/
import Derived.Test.YtkngijkhhonikaaDoorOfSaid
import Derived.Test.YtkngijkhhonikaaDoorGraphOfIn
namespace Go.Proofs.YtkngijkhhonikaaDoor
open Go.RowKit
set_option linter.unusedVariables false


theorem row_nil (w : World) (B : Nat) : Row w B (.slice none 0 0) [] := World.ownsRow_nil w B 3 1

theorem implGraphOf_less (n c : Int) (w : World) (h : n < 1) : Calls Tryd.prog 19 #[.int .i64 n, .int .i64 c] w (Told w [] false) := by
  have hb : decide (n < 1) = true := by simpa using h
  go_enter Tryd.func19, Tryd.ntmps19
  go_wp2
  go_ret2
  exact ⟨_, rfl, row_nil _ _, Below.refl _ _⟩
theorem implGraphOf_more (n c : Int) (w : World) (h : 6 < n) : Calls Tryd.prog 19 #[.int .i64 n, .int .i64 c] w (Told w [] false) := by
  have ha : decide (n < 1) = false := by simp; omega
  have hb : decide (6 < n) = true := by simpa using h
  go_enter Tryd.func19, Tryd.ntmps19
  go_wp2
  go_ret2
  exact ⟨_, rfl, row_nil _ _, Below.refl _ _⟩
set_option maxHeartbeats 2000000 in
theorem implGraphOf_bad (n : Nat) (c : Int) (w : World) (h1 : 1 ≤ n) (h6 : n ≤ 6) (h : ¬ (0 ≤ c ∧ c < (codes n : Int))) : Calls Tryd.prog 19 #[.int .i64 n, .int .i64 c] w (Told w [] false) := by
  have ha : decide ((n : Int) < 1) = false := by simp; omega
  have hb : decide (6 < (n : Int)) = false := by simp; omega
  have HC := fun w => isCode_any n c w h1 h6
  rw [decide_eq_false h] at HC
  have HH := Lib.hid HC
  clear HC h h1 h6
  go_enter Tryd.func19, Tryd.ntmps19
  go_wp2_with fail
  refine (HH.out _).mono ?_
  rintro e w2 ⟨rfl, rfl⟩
  go_wp2
  go_ret2
  exact ⟨_, rfl, row_nil _ _, Below.refl _ _⟩
set_option maxHeartbeats 2000000 in
theorem implGraphOf_good (n c : Nat) (w : World) (h1 : 1 ≤ n) (h6 : n ≤ 6) (h : c < codes n) :
    Calls Tryd.prog 19 #[.int .i64 n, .int .i64 c] w (Told w (ints (ofCode n c)) true) := by
  have hc : c < 1048576 := by have := codes_le n h6; omega
  have ha : decide ((n : Int) < 1) = false := by simp; omega
  have hb : decide (6 < (n : Int)) = false := by simp; omega
  have HC := fun w => isCode_any n c w h1 h6
  rw [decide_eq_true (show (0 : Int) ≤ (c : Int) ∧ (c : Int) < (codes n : Int) by omega)] at HC
  have HH := Lib.hid HC
  have HI := Lib.hid (fun w => implOf_any n c w h1 h6 hc)
  clear HC h h1 h6 hc
  go_enter Tryd.func19, Tryd.ntmps19
  go_wp2_with fail
  refine (HH.out _).mono ?_
  rintro e w2 ⟨rfl, rfl⟩
  go_wp2_with fail
  refine (HI.out _).mono ?_
  rintro e w2 ⟨v, rfl, hr, hb⟩
  go_wp2
  go_ret2
  exact ⟨_, rfl, hr, hb⟩

/-- **The program's GraphOf, at all numbers.** -/
theorem implGraphOf_any (n c : Int) (w : World) : Calls Tryd.prog 19 #[.int .i64 n, .int .i64 c] w (Told w (ofSaid n c).1 (ofSaid n c).2) := by
  by_cases hn : 1 ≤ n ∧ n ≤ 6
  · obtain ⟨m, rfl⟩ : ∃ m : Nat, n = (m : Int) := ⟨n.toNat, by omega⟩
    have h1 : 1 ≤ m := by omega
    have h6 : m ≤ 6 := by omega
    by_cases h0 : 0 ≤ c
    · obtain ⟨d, rfl⟩ : ∃ d : Nat, c = (d : Int) := ⟨c.toNat, by omega⟩
      by_cases hd : d < codes m
      · have e : ofSaid (m : Int) (d : Int) = (ints (ofCode m d), true) := by unfold ofSaid; rw [if_pos (by simp only [Int.toNat_natCast]; omega)]; simp
        rw [e]
        exact implGraphOf_good m d w h1 h6 hd
      · have e : ofSaid (m : Int) (d : Int) = ([], false) := by unfold ofSaid; rw [if_neg (by simp only [Int.toNat_natCast]; omega)]
        rw [e]
        exact implGraphOf_bad m d w h1 h6 (by omega)
    · have e : ofSaid (m : Int) c = ([], false) := by unfold ofSaid; rw [if_neg (by omega)]
      rw [e]
      exact implGraphOf_bad m c w (by omega) (by omega) (by omega)
  · have e : ofSaid n c = ([], false) := by unfold ofSaid; rw [if_neg (by omega)]
    rw [e]
    by_cases h : n < 1
    · exact implGraphOf_less n c w h
    · exact implGraphOf_more n c w (by omega)
theorem ofSaid_length (n c : Int) : (ofSaid n c).1.length ≤ 1000 := by
  unfold ofSaid
  split
  · rename_i h
    rw [ints_length, ofCode_length]
    omega
  · simp
end Go.Proofs.YtkngijkhhonikaaDoor
