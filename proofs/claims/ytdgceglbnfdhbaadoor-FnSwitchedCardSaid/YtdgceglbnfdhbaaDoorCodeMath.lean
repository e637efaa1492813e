/- The code of a graph, as plain mathematics. No condition. -/
import Derived.Test.YtdgceglbnfdhbaaDoorBaseA
namespace Go.Proofs.YtdgceglbnfdhbaaDoor
open Go Go.RowKit

def cstep (L : List Int) (st : Nat × Nat) (p : Nat × Nat) : Nat × Nat := (st.1 ||| bt L p.1 p.2 * 2 ^ st.2, st.2 + 1)
def crun (L : List Int) (ps : List (Nat × Nat)) : Nat × Nat := ps.foldl (cstep L) (0, 0)
theorem crun_snoc (L : List Int) (ps : List (Nat × Nat)) (p : Nat × Nat) : crun L (ps ++ [p]) = cstep L (crun L ps) p := by simp [crun]
theorem crun_at (L : List Int) (ps : List (Nat × Nat)) : (crun L ps).2 = ps.length := by
  induction ps using snoc_ind with
  | h0 => rfl
  | h1 l x ih => rw [crun_snoc, List.length_append]; show (crun L l).2 + 1 = _; rw [ih]; rfl
theorem bt_le (L : List Int) (v w : Nat) : bt L v w ≤ 1 := by unfold bt; omega
theorem bit_shift {bit k m : Nat} (hb : bit ≤ 1) (hk : k < m) : bit * 2 ^ k < 2 ^ m := by
  have h1 : 2 ^ k < 2 ^ m := Nat.pow_lt_pow_right (by omega) hk
  have h2 : bit * 2 ^ k ≤ 1 * 2 ^ k := Nat.mul_le_mul_right _ hb
  omega
theorem crun_lt (L : List Int) (ps : List (Nat × Nat)) : (crun L ps).1 < 2 ^ ps.length := by
  induction ps using snoc_ind with
  | h0 => show 0 < 2 ^ 0; decide
  | h1 l x ih =>
    rw [crun_snoc, List.length_append]
    show (crun L l).1 ||| bt L x.1 x.2 * 2 ^ (crun L l).2 < 2 ^ (l.length + 1)
    rw [crun_at]
    refine Nat.or_lt_two_pow ?_ (bit_shift (bt_le _ _ _) (by omega))
    exact Nat.lt_of_lt_of_le ih (pow_le _ _ (by omega))
theorem crun_small (L : List Int) (ps : List (Nat × Nat)) (h : ps.length ≤ 15) : (crun L ps).1 < 32768 :=
  Nat.lt_of_lt_of_le (crun_lt L ps) (pow_le _ 15 h)
/-- The code of a list that is a graph. -/
def codeOf (L : List Int) : Nat := (crun L (rows L.length)).1

theorem wrap_shift (bit k p : Nat) (hb : bit ≤ 1) (hk : k < 40) (hp : p = bit * 2 ^ k) : wrap64 ((bit : Int) * 2 ^ k) = (p : Int) := by
  have h1 := bit_shift (m := 40) hb hk
  rw [← hp] at h1
  have e : (bit : Int) * 2 ^ k = (p : Int) := by rw [hp]; simp
  have h2 : (2 : Nat) ^ 40 = 1099511627776 := by decide
  rw [h2] at h1
  rw [e]
  unfold wrap64
  omega
end Go.Proofs.YtdgceglbnfdhbaaDoor
