/- Plain mathematics of graphs as lists of sets: pairs in order, edges put by a code. No condition. -/
import Derived.Laws.BitsAllLaws
import Derived.Laws.BitsLemmas
import Derived.Laws.Wrap64
import Derived.IntWalk
import Derived.WalkKit
namespace Go.Proofs.Ytoipcdhofhpkfaa
open Go Go.RowKit

/-- Numbers as the cells hold them. -/
def ints (L : List Nat) : List Int := L.map fun (x : Nat) => (x : Int)
theorem ints_length (L : List Nat) : (ints L).length = L.length := by simp [ints]
theorem ints_set (L : List Nat) (i x : Nat) : (ints L).set i (x : Int) = ints (L.set i x) := by simp [ints, List.map_set]
theorem ints_get (L : List Nat) (i : Nat) : (ints L)[i]?.getD 0 = ((L[i]?.getD 0 : Nat) : Int) := by
  unfold ints
  rw [List.getElem?_map]
  cases L[i]? <;> simp
theorem ints_inj {L M : List Nat} (h : ints L = ints M) : L = M := by
  induction L generalizing M with
  | nil => cases M <;> simp_all [ints]
  | cons a L ih =>
    cases M with
    | nil => simp [ints] at h
    | cons b M =>
      simp only [ints, List.map_cons, List.cons.injEq] at h
      rw [ih h.2, Int.ofNat_inj.1 h.1]

/-! ### bits of small numbers -/
/-- A number below 2^63 as a word of 64 bits is itself. -/
theorem word (a : Nat) (h : a < 2 ^ 63) : (BitVec.ofInt 64 (a : Int)).toNat = a := by
  simp only [BitVec.ofInt_natCast, BitVec.toNat_ofNat]
  omega
/-- A word whose number is below 2^63 reads as that number. -/
theorem unword (v : BitVec 64) (m : Nat) (hv : v.toNat = m) (h : m < 2 ^ 63) : IntKind.i64.wrap (v.toNat : Int) = (m : Int) := by
  rw [IntKind.wrap_i64, hv]
  omega
theorem i64_and_nat (a b : Nat) (ha : a < 9223372036854775808) (hb : b < 9223372036854775808) : bits .and .i64 (a : Int) (b : Int) = ((a &&& b : Nat) : Int) :=
  unword (BitVec.ofInt 64 (a : Int) &&& BitVec.ofInt 64 (b : Int)) _ (by rw [BitVec.toNat_and, word a ha, word b hb]) (Nat.and_lt_two_pow a hb)
theorem i64_or_nat (a b : Nat) (ha : a < 9223372036854775808) (hb : b < 9223372036854775808) : bits .or .i64 (a : Int) (b : Int) = ((a ||| b : Nat) : Int) :=
  unword (BitVec.ofInt 64 (a : Int) ||| BitVec.ofInt 64 (b : Int)) _ (by rw [BitVec.toNat_or, word a ha, word b hb]) (Nat.or_lt_two_pow ha hb)
theorem i64_andNot_nat (a b : Nat) (ha : a < 9223372036854775808) (hb : b < 9223372036854775808) : bits .andNot .i64 (a : Int) (b : Int) = ((a &&& (18446744073709551615 - b) : Nat) : Int) :=
  unword (BitVec.ofInt 64 (a : Int) &&& ~~~BitVec.ofInt 64 (b : Int)) _ (by rw [BitVec.toNat_and, BitVec.toNat_not, word a ha, word b hb]) (Nat.lt_of_le_of_lt Nat.and_le_left ha)
theorem pow_le (k m : Nat) (h : k ≤ m) : 2 ^ k ≤ 2 ^ m := Nat.pow_le_pow_right (by omega) h
theorem wrap_pow (k : Nat) (h : k ≤ 40) : wrap64 ((2 : Int) ^ k) = ((2 ^ k : Nat) : Int) := by
  have h1 := pow_le k 40 h
  have e : ((2 : Int) ^ k) = ((2 ^ k : Nat) : Int) := by simp
  rw [e]
  obtain ⟨p, hp⟩ : ∃ p : Nat, p = 2 ^ k := ⟨_, rfl⟩
  rw [← hp] at h1 ⊢
  unfold wrap64
  omega
theorem or_pow (x k : Nat) (h : k ≤ 40) (hx : x < 9223372036854775808) : bits .or .i64 (x : Int) (wrap64 ((2 : Int) ^ k)) = ((x ||| 2 ^ k : Nat) : Int) := by
  have h1 := pow_le k 40 h
  rw [wrap_pow k h, i64_or_nat x _ hx (by omega)]

/-! ### pairs, edges -/
/-- A pair is made an edge, if bit is 1. -/
def lnk (g : List Nat) (a b bit : Nat) : List Nat := (g.set a (g[a]?.getD 0 ||| bit * 2 ^ b)).set b ((g.set a (g[a]?.getD 0 ||| bit * 2 ^ b))[b]?.getD 0 ||| bit * 2 ^ a)
theorem lnk_length (g : List Nat) (a b bit : Nat) : (lnk g a b bit).length = g.length := by simp [lnk]
theorem set_same (g : List Nat) (a : Nat) : g.set a (g[a]?.getD 0) = g := by
  apply List.ext_getElem?
  intro i
  rw [List.getElem?_set]
  split
  · rename_i e
    subst e
    by_cases h : a < g.length
    · simp [h]
    · simp [h]
  · rfl
theorem lnk_zero (g : List Nat) (a b : Nat) : lnk g a b 0 = g := by
  unfold lnk
  simp only [Nat.zero_mul, Nat.or_zero]
  rw [set_same, set_same]

theorem set_lt {g : List Nat} {m : Nat} (h : ∀ x ∈ g, x < m) (i y : Nat) (hy : y < m) : ∀ x ∈ g.set i y, x < m := by
  intro x hx
  rcases List.mem_or_eq_of_mem_set hx with h1 | h1
  · exact h x h1
  · omega
theorem get_lt {g : List Nat} {m : Nat} (h : ∀ x ∈ g, x < m) (i : Nat) (hm : 0 < m) : g[i]?.getD 0 < m := by
  by_cases hi : i < g.length
  · rw [List.getElem?_eq_getElem hi]; exact h _ (List.getElem_mem _)
  · rw [List.getElem?_eq_none (by omega)]; exact hm
theorem bit_pow {bit k : Nat} (hb : bit ≤ 1) (hk : k < 6) : bit * 2 ^ k < 2 ^ 6 := by
  have h1 : 2 ^ k ≤ 2 ^ 5 := pow_le k 5 (by omega)
  have h2 : bit * 2 ^ k ≤ 1 * 2 ^ k := Nat.mul_le_mul_right _ hb
  omega
theorem lnk_lt {g : List Nat} (h : ∀ x ∈ g, x < 2 ^ 6) (a b bit : Nat) (ha : a < 6) (hb : b < 6) (hbit : bit ≤ 1) : ∀ x ∈ lnk g a b bit, x < 2 ^ 6 := by
  have h1 := set_lt h a (g[a]?.getD 0 ||| bit * 2 ^ b) (Nat.or_lt_two_pow (get_lt h a (by omega)) (bit_pow hbit hb))
  exact set_lt h1 b _ (Nat.or_lt_two_pow (get_lt h1 b (by omega)) (bit_pow hbit ha))

/-- A graph and the number of pairs that are done, one pair more. -/
def stp (code : Nat) (st : List Nat × Nat) (p : Nat × Nat) : List Nat × Nat := (lnk st.1 p.1 p.2 (code / 2 ^ st.2 % 2), st.2 + 1)
def run (code n : Nat) (ps : List (Nat × Nat)) : List Nat × Nat := ps.foldl (stp code) (List.replicate n 0, 0)
theorem run_nil (code n : Nat) : run code n [] = (List.replicate n 0, 0) := rfl
theorem run_snoc (code n : Nat) (ps : List (Nat × Nat)) (p : Nat × Nat) : run code n (ps ++ [p]) = stp code (run code n ps) p := by simp [run]
theorem snoc_ind {α : Type} {P : List α → Prop} (h0 : P []) (h1 : ∀ l x, P l → P (l ++ [x])) (l : List α) : P l := by
  have h : ∀ m : List α, P m.reverse := by
    intro m
    induction m with
    | nil => exact h0
    | cons x m ih => rw [List.reverse_cons]; exact h1 _ _ ih
  have := h l.reverse
  rwa [List.reverse_reverse] at this
theorem run_at (code n : Nat) (ps : List (Nat × Nat)) : (run code n ps).2 = ps.length := by
  induction ps using snoc_ind with
  | h0 => rfl
  | h1 l x ih => rw [run_snoc, List.length_append]; show (run code n l).2 + 1 = _; rw [ih]; rfl
theorem run_length (code n : Nat) (ps : List (Nat × Nat)) : (run code n ps).1.length = n := by
  induction ps using snoc_ind with
  | h0 => simp [run_nil]
  | h1 l x ih => rw [run_snoc]; show (lnk _ _ _ _).length = _; rw [lnk_length, ih]
theorem run_lt (code n : Nat) (ps : List (Nat × Nat)) (h : ∀ p ∈ ps, p.1 < 6 ∧ p.2 < 6) : ∀ x ∈ (run code n ps).1, x < 2 ^ 6 := by
  induction ps using snoc_ind with
  | h0 => intro x hx; simp [run_nil] at hx; omega
  | h1 l y ih =>
    rw [run_snoc]
    obtain ⟨h1, h2⟩ := h y (by simp)
    exact lnk_lt (ih fun p hp => h p (by simp [hp])) _ _ _ h1 h2 (by omega)

/-- The pairs with a greater node below b, and those of b with a lesser node below a. -/
def rows (b : Nat) : List (Nat × Nat) := (List.range b).flatMap fun y => (List.range y).map fun x => (x, y)
def upto (b a : Nat) : List (Nat × Nat) := rows b ++ (List.range a).map fun x => (x, b)
theorem upto_zero (b : Nat) : upto b 0 = rows b := by simp [upto]
theorem upto_succ (b a : Nat) : upto b (a + 1) = upto b a ++ [(a, b)] := by simp [upto, List.range_succ]
theorem upto_end (b : Nat) : upto b b = rows (b + 1) := by simp [upto, rows, List.range_succ]
theorem rows_one : rows 1 = [] := rfl
theorem rows_mem (b : Nat) : ∀ p ∈ rows b, p.1 < p.2 ∧ p.2 < b := by
  intro p hp
  simp only [rows, List.mem_flatMap, List.mem_range, List.mem_map] at hp
  obtain ⟨y, hy, x, hx, rfl⟩ := hp
  exact ⟨hx, hy⟩
theorem upto_mem (b a : Nat) (h : a ≤ b) : ∀ p ∈ upto b a, p.1 < p.2 ∧ p.2 ≤ b := by
  intro p hp
  simp only [upto, List.mem_append, List.mem_map, List.mem_range] at hp
  rcases hp with hp | ⟨x, hx, rfl⟩
  · have := rows_mem b p hp; omega
  · exact ⟨by show x < b; omega, Nat.le_refl _⟩
theorem rows_length (b : Nat) (hb : b ≤ 6) : (rows b).length ≤ 15 := by
  have : ∀ b ≤ 6, (rows b).length ≤ 15 := by decide
  exact this b hb
theorem upto_length (b a : Nat) (hb : b ≤ 5) (ha : a ≤ b) : (upto b a).length ≤ 15 := by
  have : ∀ b ≤ 5, ∀ a ≤ b, (upto b a).length ≤ 15 := by decide
  exact this b hb a ha

theorem rows_pre (b m : Nat) (h : b ≤ m) : rows b <+: rows m := by
  induction m with
  | zero => have : b = 0 := by omega
            subst this; exact List.prefix_refl _
  | succ m ih =>
    by_cases e : b = m + 1
    · subst e; exact List.prefix_refl _
    · have h1 := ih (by omega)
      rw [← upto_end m]
      exact h1.trans (List.prefix_append _ _)
theorem upto_pre (b a m : Nat) (ha : a ≤ b) (h : b < m) : upto b a <+: rows m := by
  refine List.IsPrefix.trans ?_ (rows_pre (b + 1) m (by omega))
  rw [← upto_end]
  have e : (List.range b).map (fun x => (x, b)) = (List.range a).map (fun x => (x, b)) ++ ((List.range b).drop a).map fun x => (x, b) := by
    rw [← List.map_append]
    congr 1
    have h1 : List.range a = (List.range b).take a := by rw [List.take_range]; congr 1; omega
    rw [h1, List.take_append_drop]
  exact ⟨((List.range b).drop a).map fun x => (x, b), by unfold upto; rw [List.append_assoc, ← e]⟩

/-- The graph of n nodes with a code. -/
def ofCode (n code : Nat) : List Nat := (run code n (rows n)).1
theorem ofCode_length (n code : Nat) : (ofCode n code).length = n := run_length _ _ _

/-- What the loops' operations yield for one pair. -/
theorem bit_of (c k : Nat) (hc : c < 1048576) : bits .and .i64 ((c : Int) / 2 ^ k) 1 = ((c / 2 ^ k % 2 : Nat) : Int) := by
  have e : ((c : Int) / 2 ^ k) = ((c / 2 ^ k : Nat) : Int) := by simp
  have h1 : c / 2 ^ k ≤ c := Nat.div_le_self _ _
  rw [e]
  have := i64_and_nat (c / 2 ^ k) 1 (by omega) (by omega)
  rw [show ((1 : Nat) : Int) = 1 from rfl] at this
  rw [this, Nat.and_one_is_mod]
theorem wrap_bit (bit b p : Nat) (hb : bit ≤ 1) (hk : b < 6) (hp : p = bit * 2 ^ b) : wrap64 ((bit : Int) * 2 ^ b) = (p : Int) := by
  have h1 := bit_pow hb hk
  rw [← hp] at h1
  have e : (bit : Int) * 2 ^ b = (p : Int) := by rw [hp]; simp
  rw [e]
  unfold wrap64
  omega
end Go.Proofs.Ytoipcdhofhpkfaa
