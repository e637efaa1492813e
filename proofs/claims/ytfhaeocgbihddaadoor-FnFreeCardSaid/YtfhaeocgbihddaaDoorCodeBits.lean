/- Codes and graphs lead to each other, bit by bit; one edge taken away. Plain mathematics, no condition. -/
import Derived.Test.YtfhaeocgbihddaaDoorPartGraph
namespace Go.Proofs.YtfhaeocgbihddaaDoor
open Go Go.RowKit
set_option linter.unusedVariables false
set_option maxRecDepth 100000

theorem get_snoc {α : Type} {l : List α} {x e : α} {k : Nat} : (l ++ [x])[k]? = some e ↔ l[k]? = some e ∨ (k = l.length ∧ x = e) := by
  by_cases h : k < l.length
  · rw [List.getElem?_append_left h]
    constructor
    · exact fun h => .inl h
    · rintro (h | ⟨h, _⟩)
      · exact h
      · omega
  · rw [List.getElem?_append_right (by omega)]
    have h0 : l[k]? = none := List.getElem?_eq_none (by omega)
    rw [h0]
    by_cases h2 : k = l.length
    · subst h2; simp
    · have h3 : ([x] : List α)[k - l.length]? = none := List.getElem?_eq_none (by simp; omega)
      rw [h3]
      simp [h2]
/-- A pair in either order. -/
def Either (e : Nat × Nat) (i j : Nat) : Prop := (i = e.1 ∧ j = e.2) ∨ (i = e.2 ∧ j = e.1)
theorem run_bit (c n : Nat) (ps : List (Nat × Nat)) (hp : ∀ e ∈ ps, e.1 < n ∧ e.2 < n) (i j : Nat) :
    ((run c n ps).1[i]?.getD 0).testBit j = true ↔ ∃ k e, ps[k]? = some e ∧ c / 2 ^ k % 2 = 1 ∧ Either e i j := by
  induction ps using snoc_ind with
  | h0 =>
    have h : ((run c n []).1[i]?.getD 0) = 0 := by rw [run_nil]; by_cases h : i < n <;> simp [h]
    rw [h]; simp
  | h1 l x ih =>
    have hx := hp x (by simp)
    have ih := ih (fun e he => hp e (by simp [he]))
    rw [run_snoc]
    show ((lnk (run c n l).1 x.1 x.2 (c / 2 ^ (run c n l).2 % 2))[i]?.getD 0).testBit j = true ↔ _
    rw [run_at, lnk_or, orAt_bit _ _ _ _ _ (by rw [orAt_length, run_length]; exact hx.2), orAt_bit _ _ _ _ _ (by rw [run_length]; exact hx.1), bit_test _ _ _ (by omega), bit_test _ _ _ (by omega)]
    simp only [Bool.or_eq_true, Bool.and_eq_true, decide_eq_true_eq, ih]
    constructor
    · rintro ((⟨k, e, h1, h2, h3⟩ | ⟨h1, h2, h3⟩) | ⟨h1, h2, h3⟩)
      · exact ⟨k, e, get_snoc.2 (.inl h1), h2, h3⟩
      · exact ⟨l.length, x, get_snoc.2 (.inr ⟨rfl, rfl⟩), h2, .inl ⟨h1, h3⟩⟩
      · exact ⟨l.length, x, get_snoc.2 (.inr ⟨rfl, rfl⟩), h2, .inr ⟨h1, h3⟩⟩
    · rintro ⟨k, e, h1, h2, h3⟩
      rcases get_snoc.1 h1 with h4 | ⟨h4, h5⟩
      · exact .inl (.inl ⟨k, e, h4, h2, h3⟩)
      · subst h4; subst h5
        rcases h3 with ⟨h5, h6⟩ | ⟨h5, h6⟩
        · exact .inl (.inr ⟨h5, h2, h6⟩)
        · exact .inr ⟨h5, h2, h6⟩
theorem rows_lt {n : Nat} : ∀ e ∈ rows n, e.1 < n ∧ e.2 < n := fun e he => by have := rows_mem n e he; omega
/-- The graph of a code. -/
def codeG (n c : Nat) : List Int := ints (ofCode n c)
theorem codeG_length (n c : Nat) : (codeG n c).length = n := by unfold codeG; rw [ints_length, ofCode_length]
theorem codeG_bt (n c i j : Nat) : bt (codeG n c) i j = 1 ↔ ∃ k e, (rows n)[k]? = some e ∧ c / 2 ^ k % 2 = 1 ∧ Either e i j := by
  unfold codeG
  rw [bt_ints]
  exact run_bit c n (rows n) rows_lt i j
theorem rows_get {n k : Nat} {e : Nat × Nat} (h : (rows n)[k]? = some e) : e.1 < e.2 ∧ e.2 < n := rows_mem n e (List.mem_of_getElem? h)
theorem rows_inj {n : Nat} (hn : n ≤ 6) {k k' : Nat} {e : Nat × Nat} (h : (rows n)[k]? = some e) (h' : (rows n)[k']? = some e) : k = k' := by
  have hd := rows_nodup ⟨n, by omega⟩
  obtain ⟨h1, h2⟩ := List.getElem?_eq_some_iff.1 h
  obtain ⟨h3, h4⟩ := List.getElem?_eq_some_iff.1 h'
  have hp := List.pairwise_iff_getElem.1 hd
  rcases Nat.lt_trichotomy k k' with h5 | h5 | h5
  · exact absurd (h2.trans h4.symm) (hp k k' h1 h3 h5)
  · exact h5
  · exact absurd (h4.trans h2.symm) (hp k' k h3 h1 h5)
theorem rows_at {n a b : Nat} (h : a < b) (hb : b < n) : ∃ k : Nat, (rows n)[k]? = some (a, b) := by
  obtain ⟨k, hk, e⟩ := List.mem_iff_getElem.1 ((rows_all n a b).2 ⟨h, hb⟩)
  exact ⟨k, by rw [List.getElem?_eq_getElem hk, e]⟩
theorem codeG_at {n c k : Nat} (hn : n ≤ 6) {e : Nat × Nat} (h : (rows n)[k]? = some e) : bt (codeG n c) e.1 e.2 = c / 2 ^ k % 2 := by
  have h1 := bt_le (codeG n c) e.1 e.2
  have h2 : bt (codeG n c) e.1 e.2 = 1 ↔ c / 2 ^ k % 2 = 1 := by
    rw [codeG_bt]
    have he := rows_get h
    constructor
    · rintro ⟨k', e', h3, h4, h5⟩
      have he' := rows_get h3
      have hee : e' = e := by
        rcases h5 with ⟨h6, h7⟩ | ⟨h6, h7⟩
        · exact Prod.ext h6.symm h7.symm
        · omega
      subst hee
      rw [rows_inj hn h h3]
      exact h4
    · exact fun h3 => ⟨k, e, h, h3, .inl ⟨rfl, rfl⟩⟩
  by_cases h3 : c / 2 ^ k % 2 = 1
  · rw [h3, h2.2 h3]
  · have h4 : ¬ bt (codeG n c) e.1 e.2 = 1 := fun h => h3 (h2.1 h)
    omega
theorem codeG_graph {n : Nat} (c : Nat) (h1 : 1 ≤ n) (h6 : n ≤ 6) : IsGraph (codeG n c) := by
  have hl := codeG_length n c
  refine ⟨by rw [hl]; exact h1, by rw [hl]; exact h6, fun v hv => ?_⟩
  rw [hl] at hv
  refine ⟨?_, bt_zero_of fun h3 => ?_, fun w hw => bt_eq ?_⟩
  · unfold InR
    rw [hl]
    have e : (codeG n c)[v]?.getD 0 = ((ofCode n c)[v]?.getD 0 : Nat) := by unfold codeG; rw [ints_get]
    rw [e]
    refine ⟨by omega, ?_⟩
    have h2 : (ofCode n c)[v]?.getD 0 < 2 ^ n := by
      refine Nat.lt_pow_two_of_testBit _ fun j hj => ?_
      cases hb : ((ofCode n c)[v]?.getD 0).testBit j with
      | false => rfl
      | true =>
        obtain ⟨k, e, h3, _, h4⟩ := (run_bit c n (rows n) rows_lt v j).1 hb
        have := rows_get h3
        rcases h4 with ⟨_, h5⟩ | ⟨_, h5⟩ <;> omega
    omega
  · obtain ⟨k, e, h4, _, h5⟩ := (codeG_bt n c v v).1 h3
    have := rows_get h4
    rcases h5 with ⟨h6, h7⟩ | ⟨h6, h7⟩ <;> omega
  · rw [codeG_bt, codeG_bt]
    constructor
    · rintro ⟨k, e, h3, h4, h5⟩; exact ⟨k, e, h3, h4, h5.symm.imp (fun ⟨a, b⟩ => ⟨b, a⟩) (fun ⟨a, b⟩ => ⟨b, a⟩)⟩
    · rintro ⟨k, e, h3, h4, h5⟩; exact ⟨k, e, h3, h4, h5.symm.imp (fun ⟨a, b⟩ => ⟨b, a⟩) (fun ⟨a, b⟩ => ⟨b, a⟩)⟩

theorem crun_bitE (L : List Int) (ps : List (Nat × Nat)) (k : Nat) : (crun L ps).1.testBit k = true ↔ ∃ e, ps[k]? = some e ∧ bt L e.1 e.2 = 1 := by
  induction ps using snoc_ind with
  | h0 => show (0 : Nat).testBit k = true ↔ _; simp
  | h1 l x ih =>
    rw [crun_snoc]
    show ((crun L l).1 ||| bt L x.1 x.2 * 2 ^ (crun L l).2).testBit k = true ↔ _
    rw [crun_at, Nat.testBit_or, bit_test _ _ _ (bt_le _ _ _)]
    simp only [Bool.or_eq_true, Bool.and_eq_true, decide_eq_true_eq, ih, get_snoc]
    constructor
    · rintro (⟨e, h1, h2⟩ | ⟨h1, h2⟩)
      · exact ⟨e, .inl h1, h2⟩
      · exact ⟨x, .inr ⟨h2, rfl⟩, h1⟩
    · rintro ⟨e, (h1 | ⟨h1, h2⟩), h3⟩
      · exact .inl ⟨e, h1, h3⟩
      · subst h2; exact .inr ⟨h3, h1⟩
theorem code_bit {L : List Int} {k : Nat} {e : Nat × Nat} (h : (rows L.length)[k]? = some e) : codeOf L / 2 ^ k % 2 = bt L e.1 e.2 := by
  have h1 := crun_bitE L (rows L.length) k
  have h2 : (codeOf L).testBit k = true ↔ bt L e.1 e.2 = 1 := by
    show (crun L (rows L.length)).1.testBit k = true ↔ _
    rw [h1]
    constructor
    · rintro ⟨e', h3, h4⟩
      rw [h] at h3
      cases h3
      exact h4
    · exact fun h3 => ⟨e, h, h3⟩
  rw [Nat.testBit_eq_decide_div_mod_eq, decide_eq_true_eq] at h2
  have := bt_le L e.1 e.2
  by_cases h3 : bt L e.1 e.2 = 1
  · rw [h3, h2.2 h3]
  · have : ¬ codeOf L / 2 ^ k % 2 = 1 := fun h4 => h3 (h2.1 h4)
    omega
theorem code_lt (L : List Int) : codeOf L < 2 ^ (rows L.length).length := crun_lt L _
theorem codeG_code {n c : Nat} (hn : n ≤ 6) (hc : c < 2 ^ (rows n).length) : codeOf (codeG n c) = c := by
  refine Nat.eq_of_testBit_eq fun k => ?_
  have hl := codeG_length n c
  by_cases hk : k < (rows n).length
  · have h := List.getElem?_eq_getElem hk
    have h1 := code_bit (L := codeG n c) (k := k) (e := (rows n)[k]) (by rw [hl]; exact h)
    rw [codeG_at hn h] at h1
    rw [Nat.testBit_eq_decide_div_mod_eq, Nat.testBit_eq_decide_div_mod_eq, h1]
  · have h2 := code_lt (codeG n c)
    rw [hl] at h2
    rw [Nat.testBit_lt_two_pow (Nat.lt_of_lt_of_le h2 (Nat.pow_le_pow_right (by omega) (by omega))), Nat.testBit_lt_two_pow (Nat.lt_of_lt_of_le hc (Nat.pow_le_pow_right (by omega) (by omega)))]
theorem codeG_of {L : List Int} (hg : IsGraph L) : codeG L.length (codeOf L) = L := by
  have hG := codeG_graph (codeOf L) hg.1 hg.2.1
  have hl := codeG_length L.length (codeOf L)
  refine code_inj hG hg hl ?_
  exact codeG_code hg.2.1 (code_lt L)
end Go.Proofs.YtfhaeocgbihddaaDoor
