/- Ranks with one edge more; ranks are at most the members, the nodes less 1, the rank of a greater set. Plain mathematics, by the table of ranks. -/
import Derived.Test.YtamabhdbcmjbjaaDoorRankProm
namespace Go.Proofs.YtamabhdbcmjbjaaDoor
open Go Go.RowKit
set_option linter.unusedVariables false
set_option maxRecDepth 100000

theorem pcf_step : ∀ k s : Nat, pcf (k + 1) s = pcf k s + s / 2 ^ k % 2
  | 0, s => by show s % 2 + 0 = 0 + s / 2 ^ 0 % 2; rw [Nat.pow_zero, Nat.div_one]; omega
  | k + 1, s => by
    show s % 2 + pcf (k + 1) (s / 2) = s % 2 + pcf k (s / 2) + s / 2 ^ (k + 1) % 2
    rw [pcf_step k (s / 2), Nat.div_div_eq_div_mul, Nat.pow_succ, Nat.mul_comm 2 (2 ^ k)]
    omega
def moreR (s : Nat) : Bool := (Nat.ble (rkT s) (pcf 15 s)) && (List.range 10).all fun e => Nat.ble (rkT s) (rkT (s ||| 2 ^ e)) && Nat.ble (rkT (s ||| 2 ^ e)) (rkT s + 1)
theorem moreR_all : ((List.range 1024).all moreR) = true := by decide +kernel
theorem rank_more {s e : Nat} (hs : s < 1024) (he : e < 10) : rkT s ≤ rkT (s ||| 2 ^ e) ∧ rkT (s ||| 2 ^ e) ≤ rkT s + 1 := by
  have h := List.all_eq_true.1 moreR_all s (List.mem_range.2 hs)
  unfold moreR at h
  rw [Bool.and_eq_true] at h
  have h2 := List.all_eq_true.1 h.2 e (List.mem_range.2 he)
  rw [Bool.and_eq_true] at h2
  exact ⟨Nat.le_of_ble_eq_true h2.1, Nat.le_of_ble_eq_true h2.2⟩
theorem rank_members {s : Nat} (hs : s < 1024) : rkT s ≤ pcf 15 s := by
  have h := List.all_eq_true.1 moreR_all s (List.mem_range.2 hs)
  unfold moreR at h
  rw [Bool.and_eq_true] at h
  exact Nat.le_of_ble_eq_true h.1
def monR (c s : Nat) : Bool := Nat.ble (rkT s) (rkT c)
theorem monR_all : all3 monR 10 0 0 = true := by decide +kernel
theorem rank_mono {c s : Nat} (hc : c < 1024) (h : s &&& c = s) : rkT s ≤ rkT c := by
  have := all3_spec monR_all c s hc h
  rw [Nat.zero_add, Nat.zero_add] at this
  exact Nat.le_of_ble_eq_true this
theorem nodR_1 : ((List.range 1).all fun s => Nat.ble (rkT s + 1) 1) = true := by decide +kernel
theorem nodR_2 : ((List.range 2).all fun s => Nat.ble (rkT s + 1) 2) = true := by decide +kernel
theorem nodR_3 : ((List.range 8).all fun s => Nat.ble (rkT s + 1) 3) = true := by decide +kernel
theorem nodR_4 : ((List.range 64).all fun s => Nat.ble (rkT s + 1) 4) = true := by decide +kernel
theorem nodR_5 : ((List.range 1024).all fun s => Nat.ble (rkT s + 1) 5) = true := by decide +kernel
theorem rank_nodes {n s : Nat} (h1 : 1 ≤ n) (h5 : n ≤ 5) (hs : s < codesN n) : rkT s + 1 ≤ n := by
  have hn : n = 1 ∨ n = 2 ∨ n = 3 ∨ n = 4 ∨ n = 5 := by omega
  rcases hn with rfl | rfl | rfl | rfl | rfl
  · exact Nat.le_of_ble_eq_true (List.all_eq_true.1 nodR_1 s (List.mem_range.2 hs))
  · exact Nat.le_of_ble_eq_true (List.all_eq_true.1 nodR_2 s (List.mem_range.2 hs))
  · exact Nat.le_of_ble_eq_true (List.all_eq_true.1 nodR_3 s (List.mem_range.2 hs))
  · exact Nat.le_of_ble_eq_true (List.all_eq_true.1 nodR_4 s (List.mem_range.2 hs))
  · exact Nat.le_of_ble_eq_true (List.all_eq_true.1 nodR_5 s (List.mem_range.2 hs))
theorem or_sub {c s e : Nat} (h : s &&& c = s) (he : c / 2 ^ e % 2 = 1) : (s ||| 2 ^ e) &&& c = s ||| 2 ^ e := by
  have hce : c.testBit e = true := by rw [Nat.testBit_eq_decide_div_mod_eq]; exact decide_eq_true he
  refine Nat.eq_of_testBit_eq fun j => ?_
  have hs : s.testBit j = (s.testBit j && c.testBit j) := by rw [← Nat.testBit_and, h]
  rw [Nat.testBit_and, Nat.testBit_or, Nat.testBit_two_pow]
  by_cases e2 : e = j
  · subst e2
    rw [hce]
    simp
  · rw [decide_eq_false e2, Bool.or_false]
    exact hs.symm
end Go.Proofs.YtamabhdbcmjbjaaDoor
