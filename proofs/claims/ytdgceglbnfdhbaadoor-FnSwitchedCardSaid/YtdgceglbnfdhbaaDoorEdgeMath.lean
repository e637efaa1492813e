/- The members of a code are the edges. Plain mathematics, no condition. -/
import Derived.Test.YtdgceglbnfdhbaaDoorCodeMath
namespace Go.Proofs.YtdgceglbnfdhbaaDoor
open Go Go.RowKit

/-- The ones among the last places. -/
def pcf : Nat → Nat → Nat
  | 0, _ => 0
  | f + 1, x => x % 2 + pcf f (x / 2)
theorem pcf_zero (f : Nat) : pcf f 0 = 0 := by
  induction f with
  | zero => rfl
  | succ f ih => show 0 % 2 + pcf f (0 / 2) = 0; rw [Nat.zero_div, ih]
theorem pcf_le (f x : Nat) : pcf f x ≤ f := by
  induction f generalizing x with
  | zero => exact Nat.le_refl _
  | succ f ih => show x % 2 + pcf f (x / 2) ≤ f + 1; have := ih (x / 2); omega
theorem pcf_add (f k q b : Nat) (hk : k < f) (hq : q < 2 ^ k) (hb : b ≤ 1) : pcf f (q + b * 2 ^ k) = pcf f q + b := by
  induction f generalizing k q with
  | zero => omega
  | succ f ih =>
    show (q + b * 2 ^ k) % 2 + pcf f ((q + b * 2 ^ k) / 2) = q % 2 + pcf f (q / 2) + b
    cases k with
    | zero =>
      have h0 : q = 0 := by simpa using hq
      subst h0
      have h1 : (0 + b * 2 ^ 0) = b := by simp
      have h2 : b / 2 = 0 := by omega
      rw [h1, h2, Nat.zero_div, pcf_zero]
      omega
    | succ k =>
      obtain ⟨p, hp⟩ : ∃ p, p = b * 2 ^ k := ⟨_, rfl⟩
      have e : b * 2 ^ (k + 1) = 2 * p := by rw [hp, Nat.pow_succ, ← Nat.mul_assoc]; omega
      have h1 : (q + 2 * p) % 2 = q % 2 := by omega
      have h2 : (q + 2 * p) / 2 = q / 2 + p := by omega
      have h3 : q / 2 < 2 ^ k := by rw [Nat.pow_succ] at hq; omega
      rw [e, h1, h2, hp, ih k (q / 2) (by omega) h3]
      omega

theorem or_add (q b k : Nat) (hq : q < 2 ^ k) : q ||| b * 2 ^ k = q + b * 2 ^ k := by
  have h := Nat.two_pow_add_eq_or_of_lt hq b
  rw [Nat.mul_comm b, Nat.or_comm, ← h]
  omega

/-- The edges among some pairs. -/
def edgesIn (L : List Int) (ps : List (Nat × Nat)) : List (Nat × Nat) := ps.filter (fun p => bt L p.1 p.2 == 1)
theorem pc_crun (L : List Int) (ps : List (Nat × Nat)) (h : ps.length ≤ 15) : pcf 15 (crun L ps).1 = (edgesIn L ps).length := by
  induction ps using snoc_ind with
  | h0 => show pcf 15 0 = 0; exact pcf_zero 15
  | h1 l x ih =>
    rw [List.length_append] at h
    have hl : l.length < 15 := by simp at h; omega
    rw [crun_snoc]
    show pcf 15 ((crun L l).1 ||| bt L x.1 x.2 * 2 ^ (crun L l).2) = _
    rw [crun_at, or_add _ _ _ (crun_lt L l), pcf_add 15 l.length _ _ hl (crun_lt L l) (bt_le _ _ _), ih (by omega)]
    unfold edgesIn
    rw [List.filter_append, List.length_append]
    have := bt_le L x.1 x.2
    by_cases h1 : bt L x.1 x.2 = 1
    · simp [h1]
    · have h0 : bt L x.1 x.2 = 0 := by omega
      simp [h0]
def edgesN (L : List Int) : Nat := pcf 15 (codeOf L)
theorem edgesN_le (L : List Int) : edgesN L ≤ 15 := pcf_le _ _
end Go.Proofs.YtdgceglbnfdhbaaDoor
