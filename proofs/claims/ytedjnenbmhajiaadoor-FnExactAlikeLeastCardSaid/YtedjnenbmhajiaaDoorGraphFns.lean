/- hasSet, edge, nodes: what the program's small methods tell of a graph. -/
import Derived.Test.YtedjnenbmhajiaaDoorNodes
import Derived.Test.YtedjnenbmhajiaaDoorSpecIn
namespace Go.Proofs.YtedjnenbmhajiaaDoor
open Go.RowKit Go.Shelf
set_option linter.unusedVariables false

theorem hasSet_yes (A : Option Addr) (n c Q : Nat) (x : Int) (hn : n ≤ 6) (hQ : Q + 1 = 2 ^ n) (w : World) (h0 : 0 ≤ x) (h1 : x ≤ (Q : Int)) :
    Calls Tryd.prog 65 #[.slice A n c, .int .i64 x] w fun e w' => e = .returned (.bool true) ∧ w = w' := by
  have d0 : decide (0 ≤ x) = true := by simpa using h0
  have d1 : decide (x ≤ (Q : Int)) = true := by simpa using h1
  have HQ := Lib.hid hQ
  clear hQ
  go_enter Tryd.func65, Tryd.ntmps65
  go_wp2_with fail
  refine (all_any A n c Q hn HQ.out _).mono ?_
  rintro e w1 ⟨rfl, rfl⟩
  go_wp2
  go_ret
  exact ⟨rfl, rfl⟩
theorem hasSet_low (A : Option Addr) (n c : Nat) (x : Int) (w : World) (h0 : x < 0) :
    Calls Tryd.prog 65 #[.slice A n c, .int .i64 x] w fun e w' => e = .returned (.bool false) ∧ w = w' := by
  have d0 : decide (0 ≤ x) = false := by simp; omega
  go_enter Tryd.func65, Tryd.ntmps65
  go_wp2
  go_ret
  exact ⟨rfl, rfl⟩
theorem hasSet_high (A : Option Addr) (n c Q : Nat) (x : Int) (hn : n ≤ 6) (hQ : Q + 1 = 2 ^ n) (w : World) (h0 : 0 ≤ x) (h1 : (Q : Int) < x) :
    Calls Tryd.prog 65 #[.slice A n c, .int .i64 x] w fun e w' => e = .returned (.bool false) ∧ w = w' := by
  have d0 : decide (0 ≤ x) = true := by simpa using h0
  have d1 : decide (x ≤ (Q : Int)) = false := by simp; omega
  have HQ := Lib.hid hQ
  clear hQ
  go_enter Tryd.func65, Tryd.ntmps65
  go_wp2_with fail
  refine (all_any A n c Q hn HQ.out _).mono ?_
  rintro e w1 ⟨rfl, rfl⟩
  go_wp2
  go_ret
  exact ⟨rfl, rfl⟩
/-- **hasSet says whether a number is a set of nodes.** -/
theorem hasSet_any (A : Option Addr) (n c : Nat) (x : Int) (hn : n ≤ 6) (w : World) :
    Calls Tryd.prog 65 #[.slice A n c, .int .i64 x] w fun e w' => e = .returned (.bool (decide (0 ≤ x ∧ x < ((2 ^ n : Nat) : Int)))) ∧ w = w' := by
  have hp := two_pos n
  obtain ⟨Q, hQ⟩ : ∃ Q, Q + 1 = 2 ^ n := ⟨2 ^ n - 1, by omega⟩
  by_cases h0 : 0 ≤ x
  · by_cases h1 : x ≤ (Q : Int)
    · exact (hasSet_yes A n c Q x hn hQ w h0 h1).mono fun e w' ⟨he, hw⟩ => ⟨by rw [he]; exact ret_bool (by symm; simp only [decide_eq_true_eq]; omega), hw⟩
    · exact (hasSet_high A n c Q x hn hQ w h0 (by omega)).mono fun e w' ⟨he, hw⟩ => ⟨by rw [he]; exact ret_bool (by symm; simp only [decide_eq_false_iff_not]; omega), hw⟩
  · exact (hasSet_low A n c x w (by omega)).mono fun e w' ⟨he, hw⟩ => ⟨by rw [he]; exact ret_bool (by symm; simp only [decide_eq_false_iff_not]; omega), hw⟩

/-- **edge tells a bit.** -/
theorem edge_any (b off n c a k X : Nat) (w : World) (hX : X < 1048576) (ha : a < n) (hk : k < 40) (hc : w.cell? ⟨b, off + a, none⟩ = some (.int .i64 X)) :
    Calls Tryd.prog 68 #[.slice (some ⟨b, off, none⟩) n c, .int .i64 a, .int .i64 k] w fun e w' => e = .returned (.bool (X / 2 ^ k % 2 == 1)) ∧ w = w' := by
  have hi1 : (0 : Int) ≤ (a : Int) ∧ (a : Int) < (n : Int) := by omega
  obtain ⟨bit, eb, hb, f1⟩ := and_facts X k hX
  rw [← eb]
  have e1 : ((bit : Int) == 1) = (bit == 1) := by rw [Bool.eq_iff_iff]; simp; omega
  clear eb
  go_enter Tryd.func68, Tryd.ntmps68
  go_wp2
  go_ret
  exact ⟨rfl, rfl⟩

/-- nodes hands out the iterator over all nodes. -/
theorem nodes_any (A : Option Addr) (n c Q : Nat) (hn : n ≤ 6) (hQ : Q + 1 = 2 ^ n) (w : World) : Calls Tryd.prog 66 #[.slice A n c] w fun e w' =>
    e = .returned (.func (.func 79) #[] #[.pointer (some ⟨w.heap.size, 0, none⟩)]) ∧ w.alloc (.cells #[.int .i64 (Q : Nat)] 3) = w' := by
  have HQ := Lib.hid hQ
  clear hQ
  go_enter Tryd.func66, Tryd.ntmps66
  go_wp2_with fail
  refine (all_any A n c Q hn HQ.out _).mono ?_
  rintro e w1 ⟨rfl, rfl⟩
  go_wp2_with fail
  refine (nodesIn_any Q _).mono ?_
  rintro e w1 ⟨rfl, rfl⟩
  go_wp2
  go_ret
  exact ⟨rfl, rfl⟩
end Go.Proofs.YtedjnenbmhajiaaDoor
