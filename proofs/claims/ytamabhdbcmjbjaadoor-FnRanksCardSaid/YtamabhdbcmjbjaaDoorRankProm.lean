/- Ranks of a set and of all others are at least that of all. Plain mathematics, by the table of ranks. -/
import Derived.Test.YtamabhdbcmjbjaaDoorRankMath
import Derived.Test.YtamabhdbcmjbjaaDoorSubMath
import Derived.Test.YtamabhdbcmjbjaaDoorBaseG
namespace Go.Proofs.YtamabhdbcmjbjaaDoor
open Go Go.RowKit
set_option linter.unusedVariables false
set_option maxRecDepth 100000

/-- All ways to put each place in neither, in the whole alone, or in the set. -/
def all3 (p : Nat → Nat → Bool) (k : Nat) : Nat → Nat → Bool := Nat.rec (motive := fun _ => Nat → Nat → Bool) (fun c s => p c s) (fun k r c s => r c s && r (c + 2 ^ k) s && r (c + 2 ^ k) (s + 2 ^ k)) k
theorem all3_spec {p : Nat → Nat → Bool} : ∀ {k c0 s0 : Nat}, all3 p k c0 s0 = true → ∀ c s, c < 2 ^ k → s &&& c = s → p (c0 + c) (s0 + s) = true
  | 0, c0, s0, h, c, s, hc, hs => by
    have e1 : c = 0 := by simpa using hc
    subst e1
    have e2 : s = 0 := by rw [Nat.and_zero] at hs; exact hs.symm
    subst e2
    exact h
  | k + 1, c0, s0, h, c, s, hc, hs => by
    have h' : (all3 p k c0 s0 && all3 p k (c0 + 2 ^ k) s0 && all3 p k (c0 + 2 ^ k) (s0 + 2 ^ k)) = true := h
    rw [Bool.and_eq_true, Bool.and_eq_true] at h'
    obtain ⟨⟨ha, hb⟩, hd⟩ := h'
    have hbits : ∀ j, s.testBit j = true → c.testBit j = true := fun j hj => by
      have e : (s &&& c).testBit j = true := by rw [hs]; exact hj
      rw [Nat.testBit_and, Bool.and_eq_true] at e
      exact e.2
    have hsc : s ≤ c := by rw [← hs]; exact Nat.and_le_right
    have ofsub : ∀ {a b : Nat}, (∀ j, a.testBit j = true → b.testBit j = true) → a &&& b = a := fun {a b} h => Nat.eq_of_testBit_eq fun j => by
      rw [Nat.testBit_and]
      cases e : a.testBit j with
      | false => rfl
      | true => rw [h j e]; rfl
    have low : ∀ {a : Nat}, a < 2 ^ (k + 1) → ∀ j, (a % 2 ^ k).testBit j = (decide (j < k) && a.testBit j) := fun {a} _ j => Nat.testBit_mod_two_pow a k j
    have hsub : (s % 2 ^ k) &&& (c % 2 ^ k) = s % 2 ^ k := ofsub fun j hj => by
      rw [Nat.testBit_mod_two_pow, Bool.and_eq_true] at hj ⊢
      exact ⟨hj.1, hbits j hj.2⟩
    have hcl : c % 2 ^ k < 2 ^ k := Nat.mod_lt _ (Nat.pow_pos (by decide))
    have tb : ∀ {a : Nat}, a < 2 ^ (k + 1) → (a.testBit k = true ↔ 2 ^ k ≤ a) := fun {a} ha => by
      rw [Nat.pow_succ] at ha
      constructor
      · intro e
        exact Nat.ge_two_pow_of_testBit e
      · intro e
        obtain ⟨b, rfl⟩ : ∃ b, a = 2 ^ k + b := ⟨a - 2 ^ k, by omega⟩
        rw [Nat.testBit_two_pow_add_eq, Nat.testBit_lt_two_pow (by omega)]
        rfl
    have md : ∀ {a : Nat}, a < 2 ^ (k + 1) → 2 ^ k ≤ a → a = 2 ^ k + a % 2 ^ k := fun {a} ha h1 => by
      rw [Nat.pow_succ] at ha
      have : a % 2 ^ k = a - 2 ^ k := by rw [Nat.mod_eq_sub_mod h1, Nat.mod_eq_of_lt (by omega)]
      omega
    have hs1 : s < 2 ^ (k + 1) := Nat.lt_of_le_of_lt hsc hc
    by_cases hck : 2 ^ k ≤ c
    · by_cases hsk : 2 ^ k ≤ s
      · have := all3_spec hd (c % 2 ^ k) (s % 2 ^ k) hcl hsub
        rw [Nat.add_assoc, Nat.add_assoc, ← md hc hck, ← md hs1 hsk] at this
        exact this
      · have hsm : s % 2 ^ k = s := Nat.mod_eq_of_lt (by omega)
        have := all3_spec hb (c % 2 ^ k) (s % 2 ^ k) hcl hsub
        rw [Nat.add_assoc, ← md hc hck, hsm] at this
        exact this
    · have hcm : c % 2 ^ k = c := Nat.mod_eq_of_lt (by omega)
      have hsm : s % 2 ^ k = s := Nat.mod_eq_of_lt (by omega)
      have := all3_spec ha (c % 2 ^ k) (s % 2 ^ k) hcl hsub
      rw [hcm, hsm] at this
      exact this
def subR (c s : Nat) : Bool := Nat.ble (rkT c) (rkT s + rkT (less c s))
theorem subR_all : all3 subR 10 0 0 = true := by decide +kernel
theorem rank_sum {c s : Nat} (hc : c < 1024) (h : s &&& c = s) : rkT c ≤ rkT s + rkT (less c s) := by
  have := all3_spec subR_all c s hc h
  rw [Nat.zero_add, Nat.zero_add] at this
  exact Nat.le_of_ble_eq_true this
theorem less_sub {c s : Nat} (hc : c < 1024) : less c s &&& c = less c s := Nat.eq_of_testBit_eq fun j => by
  unfold less
  rw [Nat.testBit_and, Nat.testBit_and]
  cases c.testBit j <;> cases (18446744073709551615 - s).testBit j <;> rfl
end Go.Proofs.YtamabhdbcmjbjaaDoor
