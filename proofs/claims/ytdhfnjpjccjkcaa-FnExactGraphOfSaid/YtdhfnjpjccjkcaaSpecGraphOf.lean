/- The model's GraphOf: a graph for each code, and nothing else. -/
import Derived.Test.YtdhfnjpjccjkcaaSpecOf
import Derived.Test.YtdhfnjpjccjkcaaIsCode
namespace Go.Proofs.Ytdhfnjpjccjkcaa
open Go.RowKit
set_option linter.unusedVariables false

theorem in_yes (n lo hi : Int) (w : World) (h1 : lo ≤ n) (h2 : n ≤ hi) :
    Calls Try.prog 13 #[.int .i64 n, .int .i64 lo, .int .i64 hi] w fun e w' => e = .returned (.bool true) ∧ w = w' := by
  have e1 : decide (lo ≤ n) = true := by simpa using h1
  have e2 : decide (n ≤ hi) = true := by simpa using h2
  go_enter Try.func13, Try.ntmps13
  go_wp2
  go_ret
  exact ⟨rfl, rfl⟩
theorem in_low (n lo hi : Int) (w : World) (h1 : n < lo) :
    Calls Try.prog 13 #[.int .i64 n, .int .i64 lo, .int .i64 hi] w fun e w' => e = .returned (.bool false) ∧ w = w' := by
  have e1 : decide (lo ≤ n) = false := by simp; omega
  go_enter Try.func13, Try.ntmps13
  go_wp2
  go_ret
  exact ⟨rfl, rfl⟩
theorem in_high (n lo hi : Int) (w : World) (h1 : lo ≤ n) (h2 : hi < n) :
    Calls Try.prog 13 #[.int .i64 n, .int .i64 lo, .int .i64 hi] w fun e w' => e = .returned (.bool false) ∧ w = w' := by
  have e1 : decide (lo ≤ n) = true := by simpa using h1
  have e2 : decide (n ≤ hi) = false := by simp; omega
  go_enter Try.func13, Try.ntmps13
  go_wp2
  go_ret
  exact ⟨rfl, rfl⟩
/-- **l6In says whether a number is not below the one and not above the other.** -/
theorem in_any (n lo hi : Int) (w : World) :
    Calls Try.prog 13 #[.int .i64 n, .int .i64 lo, .int .i64 hi] w fun e w' => e = .returned (.bool (decide (lo ≤ n ∧ n ≤ hi))) ∧ w = w' := by
  by_cases h1 : lo ≤ n
  · by_cases h2 : n ≤ hi
    · exact (in_yes n lo hi w h1 h2).mono fun e w' ⟨he, hw⟩ => ⟨by rw [he]; exact ret_bool (by simp [h1, h2]), hw⟩
    · exact (in_high n lo hi w h1 (by omega)).mono fun e w' ⟨he, hw⟩ => ⟨by rw [he]; exact ret_bool (by simp [h2]), hw⟩
  · exact (in_low n lo hi w (by omega)).mono fun e w' ⟨he, hw⟩ => ⟨by rw [he]; exact ret_bool (by simp [h1]), hw⟩

/-- The two arguments as the model reads them: a graph, or none. -/
def ofSaid (n c : Int) : List Int × Bool := if 1 ≤ n ∧ n ≤ 6 ∧ 0 ≤ c ∧ c < (codes n.toNat : Int) then (ints (ofCode n.toNat c.toNat), true) else ([], false)
theorem empty_row (w : World) : Row (w.alloc (.cells #[] 3)) w.heap.size (.slice (some ⟨w.heap.size, 0, none⟩) 0 0) [] :=
  World.ownsRow_lit (base := w.heap.size) (e := 3) (size := 1) w #[] 0 (Nat.le_refl _) (by unfold maxLen; omega) rfl

set_option maxHeartbeats 1000000 in
theorem specGraphOf_bad (n c : Int) (w : World) (h : n < 1 ∨ 6 < n) :
    Calls Try.prog 5 #[.int .i64 n, .int .i64 c] w (Told w [] false) := by
  have hb : decide ((1 : Int) ≤ n ∧ n ≤ 6) = false := by simp; omega
  go_enter Try.func5, Try.ntmps5
  go_wp2_with fail
  refine (in_any n 1 6 _).mono ?_
  rintro e w1 ⟨rfl, rfl⟩
  go_wp2
  go_ret2
  exact ⟨_, rfl, empty_row w, (Below.refl _ _).alloc (Nat.le_refl _) _⟩

set_option maxHeartbeats 2000000 in
theorem specGraphOf_low (n : Nat) (c : Int) (w : World) (h1 : 1 ≤ n) (h6 : n ≤ 6) (h : c < 0) :
    Calls Try.prog 5 #[.int .i64 n, .int .i64 c] w (Told w [] false) := by
  have hn : n = 1 ∨ n = 2 ∨ n = 3 ∨ n = 4 ∨ n = 5 ∨ n = 6 := by omega
  rcases hn with rfl | rfl | rfl | rfl | rfl | rfl
  all_goals
    clear h1 h6
    go_enter Try.func5, Try.ntmps5
    go_wp2_with fail
    refine (in_yes _ 1 6 _ (by omega) (by omega)).mono ?_
    rintro e w1 ⟨rfl, rfl⟩
    go_wp2_with fail
    refine (in_low _ _ _ _ h).mono ?_
    rintro e w1 ⟨rfl, rfl⟩
    go_wp2
    go_ret2
    exact ⟨_, rfl, empty_row w, (Below.refl _ _).alloc (Nat.le_refl _) _⟩

set_option maxHeartbeats 2000000 in
theorem specGraphOf_high (n : Nat) (c : Int) (w : World) (h1 : 1 ≤ n) (h6 : n ≤ 6) (h0 : 0 ≤ c) (h : (codes n : Int) ≤ c) :
    Calls Try.prog 5 #[.int .i64 n, .int .i64 c] w (Told w [] false) := by
  have hn : n = 1 ∨ n = 2 ∨ n = 3 ∨ n = 4 ∨ n = 5 ∨ n = 6 := by omega
  rcases hn with rfl | rfl | rfl | rfl | rfl | rfl
  all_goals
    simp [codes] at h
    clear h1 h6
    go_enter Try.func5, Try.ntmps5
    go_wp2_with fail
    refine (in_yes _ 1 6 _ (by omega) (by omega)).mono ?_
    rintro e w1 ⟨rfl, rfl⟩
    go_wp2_with fail
    refine (in_high _ _ _ _ h0 (by omega)).mono ?_
    rintro e w1 ⟨rfl, rfl⟩
    go_wp2
    go_ret2
    exact ⟨_, rfl, empty_row w, (Below.refl _ _).alloc (Nat.le_refl _) _⟩

set_option maxHeartbeats 2000000 in
theorem specGraphOf_good (n c : Nat) (w : World) (h1 : 1 ≤ n) (h6 : n ≤ 6) (h : c < codes n) :
    Calls Try.prog 5 #[.int .i64 n, .int .i64 c] w (Told w (ints (ofCode n c)) true) := by
  have hc : c < 1048576 := by have := codes_le n h6; omega
  have HB := Lib.hid h
  clear h
  have hn : n = 1 ∨ n = 2 ∨ n = 3 ∨ n = 4 ∨ n = 5 ∨ n = 6 := by omega
  rcases hn with rfl | rfl | rfl | rfl | rfl | rfl
  all_goals
    have H := fun w => specOf_any _ c w h6 h1 hc
    simp only [Int.cast_ofNat_Int] at H
    clear h1 h6 hc
    go_enter Try.func5, Try.ntmps5
    go_wp2_with fail
    refine (in_yes _ 1 6 _ (by omega) (by omega)).mono ?_
    rintro e w1 ⟨rfl, rfl⟩
    go_wp2_with fail
    refine (in_yes _ _ _ _ (by omega) (by have h0 := HB.out; simp [codes] at h0; omega)).mono ?_
    rintro e w1 ⟨rfl, rfl⟩
    go_wp2_with fail
    (with_reducible refine (H _).mono ?_)
    rintro e w2 ⟨v, rfl, hr, hb⟩
    go_wp2
    go_ret2
    exact ⟨_, rfl, hr, hb⟩

/-- **The model's GraphOf: at all numbers.** -/
theorem specGraphOf_any (n c : Int) (w : World) : Calls Try.prog 5 #[.int .i64 n, .int .i64 c] w (Told w (ofSaid n c).1 (ofSaid n c).2) := by
  by_cases hn : 1 ≤ n ∧ n ≤ 6
  · obtain ⟨m, rfl⟩ : ∃ m : Nat, n = (m : Int) := ⟨n.toNat, by omega⟩
    have h1 : 1 ≤ m := by omega
    have h6 : m ≤ 6 := by omega
    by_cases h0 : 0 ≤ c
    · obtain ⟨d, rfl⟩ : ∃ d : Nat, c = (d : Int) := ⟨c.toNat, by omega⟩
      by_cases hd : d < codes m
      · have e : ofSaid (m : Int) (d : Int) = (ints (ofCode m d), true) := by unfold ofSaid; rw [if_pos (by simp only [Int.toNat_natCast]; omega)]; simp
        rw [e]
        exact specGraphOf_good m d w h1 h6 hd
      · have e : ofSaid (m : Int) (d : Int) = ([], false) := by unfold ofSaid; rw [if_neg (by simp only [Int.toNat_natCast]; omega)]
        rw [e]
        exact specGraphOf_high m d w h1 h6 h0 (by omega)
    · have e : ofSaid (m : Int) c = ([], false) := by unfold ofSaid; rw [if_neg (by omega)]
      rw [e]
      exact specGraphOf_low m c w h1 h6 (by omega)
  · have e : ofSaid n c = ([], false) := by unfold ofSaid; rw [if_neg (by omega)]
    rw [e]
    exact specGraphOf_bad n c w (by omega)

end Go.Proofs.Ytdhfnjpjccjkcaa
