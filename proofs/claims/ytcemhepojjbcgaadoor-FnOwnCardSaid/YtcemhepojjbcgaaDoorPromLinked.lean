/- A graph or the graph of the other pairs is linked. Plain mathematics, no condition. -/
import Derived.Test.YtcemhepojjbcgaaDoorLinkMath
import Derived.Test.YtcemhepojjbcgaaDoorBaseE
import Derived.Test.YtcemhepojjbcgaaDoorLinkDef
namespace Go.Proofs.YtcemhepojjbcgaaDoor
open Go Go.RowKit
set_option linter.unusedVariables false
set_option maxRecDepth 100000

theorem turns_shut {L : List Int} (hg : IsGraph L) : Closed L (turns L L.length) := by
  rcases turns_grow hg.1 (fun v hv => ent_lt (hg.2.2 v hv).1) L.length with h | h
  · exact h
  · have := cntT_le_n L.length (turns L L.length)
    omega
theorem turns_small {L : List Int} (hg : IsGraph L) (k : Nat) : turns L k < 2 ^ L.length := turns_lt hg.1 (fun v hv => ent_lt (hg.2.2 v hv).1) k
theorem full_of {s n : Nat} (hs : s < 2 ^ n) (h : ∀ j, j < n → s.testBit j = true) : s = 2 ^ n - 1 := by
  refine Nat.eq_of_testBit_eq fun j => ?_
  rw [Nat.testBit_two_pow_sub_one]
  by_cases hj : j < n
  · rw [h j hj]; simp [hj]
  · rw [Nat.testBit_lt_two_pow (Nat.lt_of_lt_of_le hs (Nat.pow_le_pow_right (by omega) (by omega)))]; simp [hj]
theorem linked_or {L : List Int} (hg : IsGraph L) : IsLinked L ∨ IsLinked (otherL L L.length) := by
  have hG := other_graph hg
  have hl := otherL_length L L.length
  by_cases hfull : turns L L.length = 2 ^ L.length - 1
  · exact .inl ⟨hg, hfull⟩
  · refine .inr ⟨hG, ?_⟩
    have hS := turns_shut hg
    have hR := turns_shut hG
    have hSl := turns_small hg L.length
    have hRl := turns_small hG (otherL L L.length).length
    have h0 : (turns L L.length).testBit 0 = true := turns_has L L.length 0 (by decide)
    have r0 : (turns (otherL L L.length) (otherL L L.length).length).testBit 0 = true := turns_has (otherL L L.length) _ 0 (by decide)
    obtain ⟨t, ht, hts⟩ : ∃ t, t < L.length ∧ ¬ (turns L L.length).testBit t = true := by
      refine Classical.byContradiction fun hno => hfull (full_of hSl fun j hj => ?_)
      exact Classical.byContradiction fun hb => hno ⟨j, hj, hb⟩
    have edge : ∀ s u, s < L.length → u < L.length → (turns L L.length).testBit s = true → ¬ (turns L L.length).testBit u = true → bt (otherL L L.length) s u = 1 := fun s u hs hu h1 h2 => by
      refine (other_bt hg hs u).2 ⟨hu, fun hb => h2 (hS s hs h1 u ((bt_bit L s u).1 hb)), fun e => h2 (e ▸ h1)⟩
    have sym : ∀ s u, s < L.length → u < L.length → bt (otherL L L.length) s u = 1 → bt (otherL L L.length) u s = 1 := fun s u hs hu hb => by
      have h3 := (other_bt hg hs u).1 hb
      refine (other_bt hg hu s).2 ⟨hs, fun hb2 => h3.2.1 ?_, fun e => h3.2.2 e.symm⟩
      rcases Nat.lt_trichotomy s u with h | h | h
      · rw [← (hg.2.2 u hu).2.2 s h]; exact hb2
      · exact absurd h h3.2.2
      · rw [(hg.2.2 s hs).2.2 u h]; exact hb2
    have goes : ∀ s u, s < L.length → (turns (otherL L L.length) (otherL L L.length).length).testBit s = true → bt (otherL L L.length) s u = 1 → (turns (otherL L L.length) (otherL L L.length).length).testBit u = true := fun s u hs h1 hb =>
      hR s (by rw [hl]; exact hs) h1 u ((bt_bit _ s u).1 hb)
    have out : ∀ u, u < L.length → ¬ (turns L L.length).testBit u = true → (turns (otherL L L.length) (otherL L L.length).length).testBit u = true := fun u hu h2 =>
      goes 0 u hg.1 r0 (edge 0 u hg.1 hu h0 h2)
    refine full_of hRl fun j hj => ?_
    rw [hl] at hj
    by_cases hjs : (turns L L.length).testBit j = true
    · exact goes t j ht (out t ht hts) (sym j t hj ht (edge j t hj ht hjs hts))
    · exact out j hj hjs
end Go.Proofs.YtcemhepojjbcgaaDoor
