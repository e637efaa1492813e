/- What trees, their middles and first trees promise. Plain mathematics, no condition but those named. -/
import Derived.Test.YtkngijkhhonikaaDoorTreesList
import Derived.Test.YtkngijkhhonikaaDoorTreeCodes
import Derived.Test.YtkngijkhhonikaaDoorCutMath
import Derived.Test.YtkngijkhhonikaaDoorPromNamed
import Derived.Test.YtkngijkhhonikaaDoorOfSaid
namespace Go.Proofs.YtkngijkhhonikaaDoor
open Go Go.RowKit
set_option linter.unusedVariables false
set_option maxRecDepth 100000

/-- Part of a set, as many as the set: the set. -/
theorem pcf_sub : ∀ f s c : Nat, s &&& c = s → pcf f s ≤ pcf f c ∧ (s < 2 ^ f → c < 2 ^ f → pcf f s = pcf f c → s = c)
  | 0, s, c, _ => ⟨Nat.le_refl _, fun h1 h2 _ => by simp at h1 h2; omega⟩
  | f + 1, s, c, h => by
    have h2 : s / 2 &&& c / 2 = s / 2 := Nat.and_div_two.symm.trans (by rw [h])
    have h1 : s % 2 ≤ c % 2 := by
      have hs : s % 2 = 0 ∨ s % 2 = 1 := by omega
      rcases hs with e | e
      · omega
      · have e2 : (s &&& c) % 2 = 1 := by rw [h]; exact e
        have := (Nat.and_mod_two_eq_one.1 e2).2
        omega
    obtain ⟨p1, p2⟩ := pcf_sub f (s / 2) (c / 2) h2
    refine ⟨?_, fun hs hc he => ?_⟩
    · show s % 2 + pcf f (s / 2) ≤ c % 2 + pcf f (c / 2)
      omega
    · have he2 : s % 2 + pcf f (s / 2) = c % 2 + pcf f (c / 2) := he
      rw [Nat.pow_succ] at hs hc
      have := p2 (by omega) (by omega) (by omega)
      omega
theorem lessT_bit {a b : Nat} (hb : b < 2 ^ 15) (j : Nat) : (less a b).testBit j = (a.testBit j && (decide (j < 64) && !b.testBit j)) := by
  unfold less
  rw [Nat.testBit_and, show (18446744073709551615 - b : Nat) = 2 ^ 64 - (b + 1) by omega, Nat.testBit_two_pow_sub_succ (by omega)]
/-! ### a tree has one tree -/
theorem tree_treeB {L : List Int} (h : IsTree L) : treeB L.length (codeOf L) = true := by
  have h2 : edgesN L + 1 = L.length := h.2
  have hu : pcf 15 (codeOf L) = edgesN L := rfl
  unfold treeB
  rw [codeG_of h.1.1, Bool.and_eq_true, beq_iff_eq, beq_iff_eq, hu]
  exact ⟨by omega, h.1.2⟩
theorem code_15 {L : List Int} (hg : IsGraph L) : codeOf L < 2 ^ 15 := Nat.lt_of_lt_of_le (code_lt L) (Nat.pow_le_pow_right (n := 2) (by decide) (rows_length _ hg.2.1))
theorem tree_one {L : List Int} (h : IsTree L) : treesN L = 1 := by
  have hg := h.1.1
  have hT := tree_treeB h
  have hmem : codeOf L ∈ treeList L := (treeList_mem hg).2 ⟨Nat.and_self _, hT⟩
  have hall : ∀ s ∈ treeList L, s = codeOf L := fun s hs => by
    obtain ⟨h1, h2⟩ := (treeList_mem hg).1 hs
    have hu : pcf 15 (codeOf L) = edgesN L := rfl
    have he : edgesN L + 1 = L.length := h.2
    unfold treeB at h2
    rw [Bool.and_eq_true, beq_iff_eq] at h2
    have hsl : s < 2 ^ 15 := Nat.lt_of_le_of_lt (show s ≤ codeOf L by rw [← h1]; exact Nat.and_le_right) (code_15 hg)
    exact (pcf_sub 15 s (codeOf L) h1).2 hsl (code_15 hg) (by rw [h2.1, hu]; omega)
  rw [treesN_len]
  have hnd := treeList_nodup L
  cases hl : treeList L with
  | nil => rw [hl] at hmem; cases hmem
  | cons x xs =>
    cases xs with
    | nil => rfl
    | cons y ys =>
      rw [hl] at hnd hall
      have hx := hall x (by simp)
      have hy := hall y (by simp)
      rw [hx, hy] at hnd
      simp at hnd
theorem tree_first {L : List Int} (h : IsTree L) : frT L = codeOf L := by
  obtain ⟨f1, f2, _⟩ := first_facts h.1
  have he : edgesN L + 1 = L.length := h.2
  have hu : pcf 15 (codeOf L) = edgesN L := rfl
  unfold treeC at f1
  rw [Bool.and_eq_true] at f1
  have h1 : pcf 15 (frT L) + 1 = L.length := Nat.eq_of_beq_eq_true f1.1
  have hsl : frT L < 2 ^ 15 := Nat.lt_of_le_of_lt (show frT L ≤ codeOf L by rw [← f2]; exact Nat.and_le_right) (code_15 h.1.1)
  exact (pcf_sub 15 (frT L) (codeOf L) f2).2 hsl (code_15 h.1.1) (by omega)
/-! ### the first tree is a tree -/
theorem first_tree {L : List Int} (h : IsLinked L) : IsTree (codeG L.length (frT L)) ∧ less (frT L) (codeOf L) = 0 ∧ frT L < 2 ^ (rows L.length).length := by
  obtain ⟨f1, f2, _⟩ := first_facts h
  have hg := h.1
  have hlt : frT L < 2 ^ (rows L.length).length := Nat.lt_of_le_of_lt (show frT L ≤ codeOf L by rw [← f2]; exact Nat.and_le_right) (code_lt L)
  unfold treeC at f1
  rw [Bool.and_eq_true] at f1
  have h1 : pcf 15 (frT L) + 1 = L.length := Nat.eq_of_beq_eq_true f1.1
  have h2 : turns (codeG L.length (frT L)) L.length = 2 ^ L.length - 1 := Nat.eq_of_beq_eq_true f1.2
  have hG := codeG_graph (n := L.length) (frT L) hg.1 hg.2.1
  refine ⟨⟨⟨hG, by rw [codeG_length]; exact h2⟩, ?_⟩, ?_, hlt⟩
  · show pcf 15 (codeOf (codeG L.length (frT L))) + 1 = (codeG L.length (frT L)).length
    rw [codeG_code hg.2.1 hlt, codeG_length]
    exact h1
  · refine Nat.eq_of_testBit_eq fun j => ?_
    rw [lessT_bit (code_15 hg), Nat.zero_testBit]
    have hb : (frT L).testBit j = ((frT L).testBit j && (codeOf L).testBit j) := by rw [← Nat.testBit_and, f2]
    cases e1 : (frT L).testBit j with
    | false => simp
    | true =>
      rw [e1] at hb
      have e2 : (codeOf L).testBit j = true := by simpa using hb.symm
      simp [e2]
theorem ofSaid_in {n c : Nat} (h1 : 1 ≤ n) (h6 : n ≤ 6) (hc : c < 2 ^ (rows n).length) : ofSaid (n : Int) (c : Int) = (codeG n c, true) := by
  have hl := rows_len ⟨n, by omega⟩
  dsimp only at hl
  rw [hl] at hc
  unfold ofSaid codes
  rw [if_pos ⟨by omega, by omega, by omega, by rw [Int.toNat_natCast]; omega⟩, Int.toNat_natCast, Int.toNat_natCast]
  rfl
theorem below_rows {n c k : Nat} (hr : (rows n).length = k) (hc : c < 2 ^ (rows n).length) : c < 0 + 2 ^ k := by rw [hr] at hc; rw [Nat.zero_add]; exact hc
/-! ### what holds for all trees -/
theorem by_tr {p : List Int → Bool} (h1 : p (codeG 1 0) = true) (h2 : p (codeG 2 1) = true) (h3 : ((flt (treeB 3) 3 0).all fun c => p (codeG 3 c)) = true) (h4 : ((flt (treeB 4) 6 0).all fun c => p (codeG 4 c)) = true)
    (h5 : (tr5.all fun c => p (codeG 5 c)) = true) (h6 : (tr6.all fun c => p (codeG 6 c)) = true) {L : List Int} (h : IsTree L) : p L = true := by
  have g1 := h.1.1.1
  have g6 := h.1.1.2.1
  have hc := code_lt L
  have ht := tree_treeB h
  have e := codeG_of h.1.1
  rw [← e]
  generalize codeOf L = c at hc ht
  generalize L.length = n at hc ht g1 g6
  have hk : n = 1 ∨ n = 2 ∨ n = 3 ∨ n = 4 ∨ n = 5 ∨ n = 6 := by omega
  rcases hk with rfl | rfl | rfl | rfl | rfl | rfl
  · have : c = 0 := by have : c < 1 := hc; omega
    subst this; exact h1
  · have hc2 : c < 2 := hc
    have hcs : c = 0 ∨ c = 1 := by omega
    rcases hcs with rfl | rfl
    · exact absurd ht (by decide)
    · exact h2
  · exact List.all_eq_true.1 h3 c ((flt_mem _ _ _ _).2 ⟨Nat.zero_le _, below_rows (n := 3) (k := 3) (by decide) hc, ht⟩)
  · exact List.all_eq_true.1 h4 c ((flt_mem _ _ _ _).2 ⟨Nat.zero_le _, below_rows (n := 4) (k := 6) (by decide) hc, ht⟩)
  · have h5' := tr5_is
    rw [beq_iff_eq] at h5'
    exact List.all_eq_true.1 h5 c (by rw [← h5']; exact (flt_mem _ _ _ _).2 ⟨Nat.zero_le _, below_rows (n := 5) (k := 10) (by decide) hc, ht⟩)
  · exact List.all_eq_true.1 h6 c (by rw [← tr6_is]; exact (flt_mem _ _ _ _).2 ⟨Nat.zero_le _, below_rows (n := 6) (k := 15) (by decide) hc, ht⟩)
theorem tree_named {L : List Int} (h : IsTree L) {P : List Nat} (hP : Names L.length L.length P) : IsTree (namedL L P) :=
  ⟨linked_named h.1 hP, by rw [edges_named h.1.1 hP, namedL_length]; exact h.2⟩
end Go.Proofs.YtkngijkhhonikaaDoor
