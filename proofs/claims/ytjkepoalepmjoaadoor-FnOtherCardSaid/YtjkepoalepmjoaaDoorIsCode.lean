/- isCode: whether a number is the code of a graph of n nodes. -/
import Derived.Test.YtjkepoalepmjoaaDoorBaseA
namespace Go.Proofs.YtjkepoalepmjoaaDoor
open Go.RowKit
set_option linter.unusedVariables false

/-- The number of codes of n nodes. -/
def codes (n : Nat) : Nat := 2 ^ (n * (n - 1) / 2)
theorem codes_le (n : Nat) (hn : n ≤ 6) : codes n ≤ 32768 := by
  have : ∀ n ≤ 6, codes n ≤ 32768 := by decide
  exact this n hn

/-- How a call that answers one bool and makes nothing ends. -/
def Answ (w : World) (b : Bool) (e : Ending) (w' : World) : Prop := e = .returned (.bool b) ∧ w' = w

set_option maxRecDepth 100000 in
set_option maxHeartbeats 2000000 in
theorem isCode_any (n : Nat) (c : Int) (w : World) (h1 : 1 ≤ n) (h6 : n ≤ 6) :
    Calls Tryd.prog 51 #[.int .i64 n, .int .i64 c] w (Answ w (decide (0 ≤ c ∧ c < (codes n : Int)))) := by
  have hn : n = 1 ∨ n = 2 ∨ n = 3 ∨ n = 4 ∨ n = 5 ∨ n = 6 := by omega
  by_cases h0 : 0 ≤ c
  · by_cases hc : c < (codes n : Int)
    · have e : decide (0 ≤ c ∧ c < (codes n : Int)) = true := decide_eq_true ⟨h0, hc⟩
      have hd0 : decide ((0 : Int) ≤ c) = true := decide_eq_true h0
      have HC := Lib.hid hc
      have E := Lib.hid e
      clear e h0 hc h1 h6
      rcases hn with rfl | rfl | rfl | rfl | rfl | rfl
      all_goals
        have hd := HC.out
        simp [codes] at hd
        have hdd := decide_eq_true hd
        clear hd
        go_enter Tryd.func51, Tryd.ntmps51
        go_wp2
        go_ret
        exact ⟨ret_bool (by first | rw [E.out] | exact (decide_eq_false (Int.not_lt.2 HC.out)).symm), rfl⟩
    · have e : decide (0 ≤ c ∧ c < (codes n : Int)) = false := decide_eq_false (fun h => hc h.2)
      have hd0 : decide ((0 : Int) ≤ c) = true := decide_eq_true h0
      have HC := Lib.hid hc
      have E := Lib.hid e
      clear e h0 hc h1 h6
      rcases hn with rfl | rfl | rfl | rfl | rfl | rfl
      all_goals
        have hd := HC.out
        simp [codes] at hd
        have hdd := decide_eq_false (Int.not_lt.2 hd)
        clear hd
        go_enter Tryd.func51, Tryd.ntmps51
        go_wp2
        go_ret
        exact ⟨ret_bool (by first | rw [E.out] | exact (decide_eq_false (Int.not_lt.2 HC.out)).symm), rfl⟩
  · have e : decide (0 ≤ c ∧ c < (codes n : Int)) = false := decide_eq_false (fun h => h0 h.1)
    have hd0 : decide ((0 : Int) ≤ c) = false := decide_eq_false h0
    have E := Lib.hid e
    clear e h0 h1 h6
    go_enter Tryd.func51, Tryd.ntmps51
    go_wp2
    go_ret
    exact ⟨ret_bool (by rw [E.out]), rfl⟩
end Go.Proofs.YtjkepoalepmjoaaDoor
