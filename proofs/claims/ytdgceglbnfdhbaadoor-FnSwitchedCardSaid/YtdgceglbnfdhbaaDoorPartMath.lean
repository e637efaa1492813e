/- The graph of some nodes: the model's way and the program's make one list. Plain mathematics, no condition. -/
import Derived.Test.YtdgceglbnfdhbaaDoorGrid
namespace Go.Proofs.YtdgceglbnfdhbaaDoor
open Go Go.RowKit
set_option linter.unusedVariables false

/-- The node at a place. -/
def at_ (ns : List Nat) (i : Nat) : Nat := ns[i]?.getD 0
theorem at_lt {ns : List Nat} {n : Nat} (h : ∀ x ∈ ns, x < n) {i : Nat} (hi : i < ns.length) : at_ ns i < n := by
  unfold at_
  rw [List.getElem?_eq_getElem hi]
  exact h _ (List.getElem_mem _)
theorem ints_at {ns : List Nat} {i : Nat} (hi : i < ns.length) : (ints ns)[i]?.getD 0 = ((at_ ns i : Nat) : Int) := by rw [ints_get]; rfl
/-- The model's row of a node: the places of its neighbours. -/
def rowTo (L : List Int) (ns : List Nat) (a k : Nat) : Nat := (List.range k).foldl (fun r j => r ||| bt L a (at_ ns j) * 2 ^ j) 0
theorem rowTo_zero (L : List Int) (ns : List Nat) (a : Nat) : rowTo L ns a 0 = 0 := rfl
theorem rowTo_succ (L : List Int) (ns : List Nat) (a k : Nat) : rowTo L ns a (k + 1) = rowTo L ns a k ||| bt L a (at_ ns k) * 2 ^ k := by simp [rowTo, List.range_succ]
theorem rowTo_bit (L : List Int) (ns : List Nat) (a k j : Nat) : (rowTo L ns a k).testBit j = true ↔ j < k ∧ bt L a (at_ ns j) = 1 := by
  induction k with
  | zero => simp [rowTo]
  | succ k ih =>
    rw [rowTo_succ, Nat.testBit_or, Bool.or_eq_true, ih, bit_test _ _ _ (bt_le _ _ _)]
    simp only [Bool.and_eq_true, decide_eq_true_eq]
    constructor
    · rintro (⟨h1, h2⟩ | ⟨h1, h2⟩)
      · exact ⟨by omega, h2⟩
      · subst h2; exact ⟨by omega, h1⟩
    · rintro ⟨h1, h2⟩
      by_cases h : j = k
      · subst h; exact .inr ⟨h2, rfl⟩
      · exact .inl ⟨by omega, h2⟩
theorem rowTo_lt (L : List Int) (ns : List Nat) (a k : Nat) (hk : k ≤ 6) : rowTo L ns a k < 2 ^ 6 := by
  induction k with
  | zero => show 0 < 2 ^ 6; decide
  | succ k ih => rw [rowTo_succ]; exact Nat.or_lt_two_pow (ih (by omega)) (bit_shift (bt_le _ _ _) (by omega))
/-- The model's list, and its first rows. -/
def partTo (L : List Int) (ns : List Nat) (i : Nat) : List Nat := (List.range i).map fun x => rowTo L ns (at_ ns x) ns.length
theorem partTo_zero (L : List Int) (ns : List Nat) : partTo L ns 0 = [] := rfl
theorem partTo_succ (L : List Int) (ns : List Nat) (i : Nat) : partTo L ns (i + 1) = partTo L ns i ++ [rowTo L ns (at_ ns i) ns.length] := by simp [partTo, List.range_succ]
theorem partTo_length (L : List Int) (ns : List Nat) (i : Nat) : (partTo L ns i).length = i := by simp [partTo]
theorem partTo_bit (L : List Int) (ns : List Nat) (i j : Nat) : ((partTo L ns ns.length)[i]?.getD 0).testBit j = true ↔ i < ns.length ∧ j < ns.length ∧ bt L (at_ ns i) (at_ ns j) = 1 := by
  by_cases h : i < ns.length
  · have e : (partTo L ns ns.length)[i]?.getD 0 = rowTo L ns (at_ ns i) ns.length := by simp [partTo, h]
    rw [e, rowTo_bit]
    simp [h]
  · have e : (partTo L ns ns.length)[i]?.getD 0 = 0 := by simp [partTo, h]
    rw [e]
    simp [h]

/-- The program's edges among the nodes kept. -/
def keptIn (L : List Int) (ns : List Nat) (ps : List (Nat × Nat)) : List (Nat × Nat) := ps.filter fun e => bt L (at_ ns e.1) (at_ ns e.2) == 1
theorem keptIn_snoc (L : List Int) (ns : List Nat) (ps : List (Nat × Nat)) (e : Nat × Nat) : keptIn L ns (ps ++ [e]) = keptIn L ns ps ++ (if bt L (at_ ns e.1) (at_ ns e.2) = 1 then [e] else []) := by
  unfold keptIn
  rw [List.filter_append]
  by_cases h : bt L (at_ ns e.1) (at_ ns e.2) = 1 <;> simp [h]
theorem part_eq (L : List Int) (hg : IsGraph L) (ns : List Nat) (hns : ∀ x ∈ ns, x < L.length) : partTo L ns ns.length = lrun ns.length id (keptIn L ns (rows ns.length)) := by
  have hat : ∀ i, i < ns.length → at_ ns i < L.length := fun i hi => by
    unfold at_
    rw [List.getElem?_eq_getElem hi]
    exact hns _ (List.getElem_mem _)
  have sym : ∀ a b, a < L.length → b < L.length → bt L a b = bt L b a := fun a b ha hb => by
    rcases Nat.lt_trichotomy a b with h | h | h
    · exact ((hg.2.2 b hb).2.2 a h).symm
    · rw [h]
    · exact (hg.2.2 a ha).2.2 b h
  refine list_bits (by rw [partTo_length, lrun_length]) fun i j => ?_
  rw [partTo_bit, lrun_bit ns.length id (fun v hv => hv)]
  · constructor
    · rintro ⟨hi, hj, hb⟩
      rcases Nat.lt_trichotomy i j with h | h | h
      · exact ⟨(i, j), by unfold keptIn; rw [List.mem_filter]; exact ⟨(rows_all _ _ _).2 ⟨h, hj⟩, by simpa using hb⟩, .inl ⟨rfl, rfl⟩⟩
      · subst h
        have := (hg.2.2 _ (hat i hi)).2.1
        omega
      · exact ⟨(j, i), by unfold keptIn; rw [List.mem_filter]; exact ⟨(rows_all _ _ _).2 ⟨h, hi⟩, by simpa using (sym _ _ (hat j hj) (hat i hi)).trans hb⟩, .inr ⟨rfl, rfl⟩⟩
    · rintro ⟨⟨a, b⟩, he, h⟩
      unfold keptIn at he
      rw [List.mem_filter] at he
      obtain ⟨he, hb⟩ := he
      obtain ⟨h1, h2⟩ := (rows_all _ _ _).1 he
      have hb1 : bt L (at_ ns a) (at_ ns b) = 1 := by simpa using hb
      rcases h with ⟨hi, hj⟩ | ⟨hi, hj⟩
      · have hi : i = a := hi
        have hj : j = b := hj
        subst hi; subst hj
        exact ⟨by omega, h2, hb1⟩
      · have hi : i = b := hi
        have hj : j = a := hj
        subst hi; subst hj
        exact ⟨h2, by omega, (sym _ _ (hat _ h2) (hat _ (by omega))).trans hb1⟩
  · intro e he
    unfold keptIn at he
    rw [List.mem_filter] at he
    have := rows_mem _ _ he.1
    omega
theorem lrun_lt (n : Nat) (p : Nat → Nat) (es : List (Nat × Nat)) (h : ∀ e ∈ es, p e.1 < 6 ∧ p e.2 < 6) : ∀ x ∈ lrun n p es, x < 2 ^ 6 := by
  induction es using snoc_ind with
  | h0 => intro x hx; simp [lrun] at hx; omega
  | h1 l x ih =>
    rw [lrun_snoc]
    exact lnk_lt (ih (fun e he => h e (by simp [he]))) _ _ _ (h x (by simp)).1 (h x (by simp)).2 (Nat.le_refl 1)
end Go.Proofs.YtdgceglbnfdhbaaDoor
