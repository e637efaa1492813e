/- The least switched code is at most the least code, and the same for the graph switched at a node. Plain mathematics. -/
import Derived.Test.YtamabhdbcmjbjaaDoorSwMath
import Derived.Test.YtamabhdbcmjbjaaDoorBaseG
namespace Go.Proofs.YtamabhdbcmjbjaaDoor
open Go Go.RowKit
set_option linter.unusedVariables false
set_option maxRecDepth 100000

theorem swLeast_le (L : List Int) : swLeast L ≤ leastL L := (minF_le _ _ _).1
theorem swLeast_at {L : List Int} (hL : IsGraph L) {t : Nat} (ht : t < 2 ^ L.length) : swLeast L ≤ leastL (swL L t) := by
  obtain ⟨v, hv, h⟩ := sw_least hL ht
  exact Nat.le_trans ((minF_le (fun v => leastL (swL L (ent L v))) (leastL L) (List.range L.length)).2 v (List.mem_range.2 hv)) h
theorem swLeast_sw_le {L : List Int} (hL : IsGraph L) {s : Nat} (hs : s < 2 ^ L.length) : swLeast (swL L s) ≤ swLeast L := by
  have hS := sw_graph hL hs
  have hl := swL_length L s
  have key : ∀ t, t < 2 ^ L.length → swLeast (swL L s) ≤ leastL (swL L t) := fun t ht => by
    have hx : s ^^^ t < 2 ^ L.length := Nat.xor_lt_two_pow hs ht
    have h := swLeast_at hS (t := s ^^^ t) (by rw [hl]; exact hx)
    rw [sw_sw hL hs hx, ← Nat.xor_assoc, Nat.xor_self, Nat.zero_xor] at h
    exact h
  refine minF_ge _ _ _ _ ?_ fun v hv => key _ (ent_lt (hL.2.2 v (List.mem_range.1 hv)).1)
  have h := key 0 (Nat.pow_pos (by decide))
  rw [sw_zero hL] at h
  exact h
theorem swLeast_sw {L : List Int} (hL : IsGraph L) {s : Nat} (hs : s < 2 ^ L.length) : swLeast (swL L s) = swLeast L := by
  refine Nat.le_antisymm (swLeast_sw_le hL hs) ?_
  have h := swLeast_sw_le (sw_graph hL hs) (s := s) (by rw [swL_length]; exact hs)
  rw [sw_sw hL hs hs, Nat.xor_self, sw_zero hL] at h
  exact h
theorem swLeast_small {L : List Int} (hL : IsGraph L) : swLeast L < 32768 := Nat.lt_of_le_of_lt (swLeast_le L) (Nat.lt_of_lt_of_le (least_lt hL) (Nat.pow_le_pow_right (n := 2) (by decide) (rows_length _ hL.2.1)))
end Go.Proofs.YtamabhdbcmjbjaaDoor
