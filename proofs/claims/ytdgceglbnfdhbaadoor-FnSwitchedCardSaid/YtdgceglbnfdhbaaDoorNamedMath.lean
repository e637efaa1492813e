/- A graph with its nodes named: the model's way and the program's make one list. Plain mathematics, no condition. -/
import Derived.Test.YtdgceglbnfdhbaaDoorEdgeMath
namespace Go.Proofs.YtdgceglbnfdhbaaDoor
open Go Go.RowKit

def orAt (g : List Nat) (a x : Nat) : List Nat := g.set a (g[a]?.getD 0 ||| x)
theorem orAt_length (g : List Nat) (a x : Nat) : (orAt g a x).length = g.length := by simp [orAt]
theorem orAt_bit (g : List Nat) (a x i j : Nat) (ha : a < g.length) : ((orAt g a x)[i]?.getD 0).testBit j = ((g[i]?.getD 0).testBit j || (decide (i = a) && x.testBit j)) := by
  unfold orAt
  by_cases h : i = a
  · subst h
    rw [List.getElem?_set_self ha]
    simp
  · rw [List.getElem?_set_ne (fun e => h e.symm)]
    simp [h]
theorem lnk_or (g : List Nat) (a b bit : Nat) : lnk g a b bit = orAt (orAt g a (bit * 2 ^ b)) b (bit * 2 ^ a) := rfl
theorem bit_test (bit b j : Nat) (h : bit ≤ 1) : (bit * 2 ^ b).testBit j = (decide (bit = 1) && decide (j = b)) := by
  by_cases h1 : bit = 1
  · subst h1
    rw [Nat.one_mul, Nat.testBit_two_pow]
    simp [eq_comm]
  · have h0 : bit = 0 := by omega
    subst h0
    simp

/-- The program's way: a link for each edge. -/
def lrun (n : Nat) (p : Nat → Nat) (es : List (Nat × Nat)) : List Nat := es.foldl (fun g e => lnk g (p e.1) (p e.2) 1) (List.replicate n 0)
theorem lrun_snoc (n : Nat) (p : Nat → Nat) (es : List (Nat × Nat)) (e : Nat × Nat) : lrun n p (es ++ [e]) = lnk (lrun n p es) (p e.1) (p e.2) 1 := by simp [lrun]
theorem lrun_length (n : Nat) (p : Nat → Nat) (es : List (Nat × Nat)) : (lrun n p es).length = n := by
  induction es using snoc_ind with
  | h0 => simp [lrun]
  | h1 l x ih => rw [lrun_snoc, lnk_length, ih]
theorem lrun_bit (n : Nat) (p : Nat → Nat) (hp : ∀ v, v < n → p v < n) (es : List (Nat × Nat)) (he : ∀ e ∈ es, e.1 < n ∧ e.2 < n) (i j : Nat) :
    ((lrun n p es)[i]?.getD 0).testBit j = true ↔ ∃ e ∈ es, (i = p e.1 ∧ j = p e.2) ∨ (i = p e.2 ∧ j = p e.1) := by
  induction es using snoc_ind with
  | h0 =>
    have h : ((lrun n p [])[i]?.getD 0) = 0 := by unfold lrun; by_cases h : i < n <;> simp [h]
    rw [h]; simp
  | h1 l x ih =>
    have hx := he x (by simp)
    have h1 := hp _ hx.1
    have h2 := hp _ hx.2
    rw [lrun_snoc, lnk_or, orAt_bit _ _ _ _ _ (by rw [orAt_length, lrun_length]; exact h2), orAt_bit _ _ _ _ _ (by rw [lrun_length]; exact h1), bit_test _ _ _ (Nat.le_refl 1), bit_test _ _ _ (Nat.le_refl 1)]
    simp only [Bool.or_eq_true, Bool.and_eq_true, decide_eq_true_eq, ih (fun e h => he e (by simp [h])), List.mem_append, List.mem_singleton]
    constructor
    · rintro ((⟨e, h, h'⟩ | ⟨a, _, b⟩) | ⟨a, _, b⟩)
      · exact ⟨e, .inl h, h'⟩
      · exact ⟨x, .inr rfl, .inl ⟨a, b⟩⟩
      · exact ⟨x, .inr rfl, .inr ⟨a, b⟩⟩
    · rintro ⟨e, (h | rfl), h'⟩
      · exact .inl (.inl ⟨e, h, h'⟩)
      · rcases h' with ⟨a, b⟩ | ⟨a, b⟩
        · exact .inl (.inr ⟨a, trivial, b⟩)
        · exact .inr ⟨a, trivial, b⟩

/-- The model's way: each place of each row. -/
def mrun (L : List Int) (n : Nat) (p : Nat → Nat) (vs : List (Nat × Nat)) : List Nat := vs.foldl (fun g e => orAt g (p e.1) (bt L e.1 e.2 * 2 ^ p e.2)) (List.replicate n 0)
theorem mrun_snoc (L : List Int) (n : Nat) (p : Nat → Nat) (es : List (Nat × Nat)) (e : Nat × Nat) : mrun L n p (es ++ [e]) = orAt (mrun L n p es) (p e.1) (bt L e.1 e.2 * 2 ^ p e.2) := by simp [mrun]
theorem mrun_length (L : List Int) (n : Nat) (p : Nat → Nat) (es : List (Nat × Nat)) : (mrun L n p es).length = n := by
  induction es using snoc_ind with
  | h0 => simp [mrun]
  | h1 l x ih => rw [mrun_snoc, orAt_length, ih]
theorem mrun_bit (L : List Int) (n : Nat) (p : Nat → Nat) (hp : ∀ v, v < n → p v < n) (es : List (Nat × Nat)) (he : ∀ e ∈ es, e.1 < n) (i j : Nat) :
    ((mrun L n p es)[i]?.getD 0).testBit j = true ↔ ∃ e ∈ es, bt L e.1 e.2 = 1 ∧ i = p e.1 ∧ j = p e.2 := by
  induction es using snoc_ind with
  | h0 =>
    have h : ((mrun L n p [])[i]?.getD 0) = 0 := by unfold mrun; by_cases h : i < n <;> simp [h]
    rw [h]; simp
  | h1 l x ih =>
    have h1 := hp _ (he x (by simp))
    rw [mrun_snoc, orAt_bit _ _ _ _ _ (by rw [mrun_length]; exact h1), bit_test _ _ _ (bt_le _ _ _)]
    simp only [Bool.or_eq_true, Bool.and_eq_true, decide_eq_true_eq, ih (fun e h => he e (by simp [h])), List.mem_append, List.mem_singleton]
    constructor
    · rintro (⟨e, h, h'⟩ | ⟨a, b, c⟩)
      · exact ⟨e, .inl h, h'⟩
      · exact ⟨x, .inr rfl, b, a, c⟩
    · rintro ⟨e, (h | rfl), h'⟩
      · exact .inl ⟨e, h, h'⟩
      · exact .inr ⟨h'.2.1, h'.1, h'.2.2⟩

theorem list_bits {a b : List Nat} (hl : a.length = b.length) (h : ∀ i j : Nat, (a[i]?.getD 0).testBit j = true ↔ (b[i]?.getD 0).testBit j = true) : a = b := by
  refine List.ext_getElem hl fun i h1 h2 => ?_
  have h3 : (a[i]?.getD 0) = (b[i]?.getD 0) := Nat.eq_of_testBit_eq fun j => by
    have h4 := h i j
    cases e1 : (a[i]?.getD 0).testBit j <;> cases e2 : (b[i]?.getD 0).testBit j <;> simp_all
  simpa [h1, h2] using h3

theorem rows_all (n a b : Nat) : (a, b) ∈ rows n ↔ a < b ∧ b < n := by
  constructor
  · exact fun h => rows_mem n (a, b) h
  · rintro ⟨h1, h2⟩
    unfold rows
    rw [List.mem_flatMap]
    exact ⟨b, by simpa using h2, by simpa using h1⟩
/-- **Both make one list**, where the graph is one, and each place has been met. -/
theorem named_eq (L : List Int) (hg : IsGraph L) (p : Nat → Nat) (hp : ∀ v, v < L.length → p v < L.length) (vs : List (Nat × Nat)) (hv : ∀ a b, (a, b) ∈ vs ↔ a < L.length ∧ b < L.length) :
    mrun L L.length p vs = lrun L.length p (edgesIn L (rows L.length)) := by
  have sym : ∀ a b, a < L.length → b < L.length → bt L a b = bt L b a := fun a b ha hb => by
    rcases Nat.lt_trichotomy a b with h | h | h
    · exact ((hg.2.2 b hb).2.2 a h).symm
    · rw [h]
    · exact (hg.2.2 a ha).2.2 b h
  refine list_bits (by rw [mrun_length, lrun_length]) fun i j => ?_
  rw [mrun_bit L _ p hp vs (fun e he => ((hv e.1 e.2).1 he).1), lrun_bit _ p hp]
  · constructor
    · rintro ⟨⟨a, b⟩, he, hb, hi, hj⟩
      obtain ⟨ha, hb'⟩ := (hv a b).1 he
      dsimp only at hb hi hj
      rcases Nat.lt_trichotomy a b with h | h | h
      · exact ⟨(a, b), by unfold edgesIn; rw [List.mem_filter]; exact ⟨(rows_all _ _ _).2 ⟨h, hb'⟩, by simpa using hb⟩, .inl ⟨hi, hj⟩⟩
      · subst h
        have := (hg.2.2 a ha).2.1
        omega
      · exact ⟨(b, a), by unfold edgesIn; rw [List.mem_filter]; exact ⟨(rows_all _ _ _).2 ⟨h, ha⟩, by simpa using (sym b a hb' ha).trans hb⟩, .inr ⟨hi, hj⟩⟩
    · rintro ⟨⟨a, b⟩, he, h⟩
      unfold edgesIn at he
      rw [List.mem_filter] at he
      obtain ⟨he, hb⟩ := he
      obtain ⟨h1, h2⟩ := (rows_all _ _ _).1 he
      have hb1 : bt L a b = 1 := by simpa using hb
      rcases h with ⟨hi, hj⟩ | ⟨hi, hj⟩
      · exact ⟨(a, b), (hv _ _).2 ⟨by omega, h2⟩, hb1, hi, hj⟩
      · exact ⟨(b, a), (hv _ _).2 ⟨h2, by omega⟩, (sym b a h2 (by omega)).trans hb1, hi, hj⟩
  · intro e he
    unfold edgesIn at he
    rw [List.mem_filter] at he
    have := rows_mem _ _ he.1
    omega
end Go.Proofs.YtdgceglbnfdhbaaDoor
