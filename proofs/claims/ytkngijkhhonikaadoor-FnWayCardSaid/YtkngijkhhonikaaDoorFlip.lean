/- One edge taken away: in the graph and in its code; the edge deck. Plain mathematics, no condition. -/
import Derived.Test.YtkngijkhhonikaaDoorBaseG
namespace Go.Proofs.YtkngijkhhonikaaDoor
open Go Go.RowKit
set_option linter.unusedVariables false
set_option maxRecDepth 100000

/-- The graph with a pair turned. -/
def flipG (L : List Int) (a b : Nat) : List Int := (L.set a ((ent L a ^^^ 2 ^ b : Nat) : Int)).set b ((ent L b ^^^ 2 ^ a : Nat) : Int)
theorem flipG_length (L : List Int) (a b : Nat) : (flipG L a b).length = L.length := by simp [flipG]
/-- The code without a place. -/
def codeLess (L : List Int) (k : Nat) : Nat := less (codeOf L) (2 ^ k)
theorem place_lt {n k : Nat} (hn : n ≤ 6) {e : Nat × Nat} (h : (rows n)[k]? = some e) : k < 15 := by
  have h1 := (List.getElem?_eq_some_iff.1 h).1
  have := rows_length n hn
  omega
theorem either_pair {e e' : Nat × Nat} {i j : Nat} (h : e.1 < e.2) (h' : e'.1 < e'.2) (q : Either e i j) (q' : Either e' i j) : e = e' := by
  rcases q with ⟨q1, q2⟩ | ⟨q1, q2⟩ <;> rcases q' with ⟨q3, q4⟩ | ⟨q3, q4⟩
  · exact Prod.ext (q1.symm.trans q3) (q2.symm.trans q4)
  · omega
  · omega
  · exact Prod.ext (q2.symm.trans q4) (q1.symm.trans q3)
theorem graph_bt {L : List Int} (hg : IsGraph L) (i j : Nat) : bt L i j = 1 ↔ ∃ k e, (rows L.length)[k]? = some e ∧ codeOf L / 2 ^ k % 2 = 1 ∧ Either e i j := by
  have h := codeG_bt L.length (codeOf L) i j
  rw [codeG_of hg] at h
  exact h
theorem less_bt {L : List Int} (hg : IsGraph L) {k : Nat} {e : Nat × Nat} (h : (rows L.length)[k]? = some e) (i j : Nat) :
    bt (codeG L.length (codeLess L k)) i j = 1 ↔ bt L i j = 1 ∧ ¬ Either e i j := by
  have h6 := hg.2.1
  have hc : codeOf L < 1048576 := Nat.lt_trans (crun_small L _ (rows_length _ h6)) (by decide)
  have hk := place_lt h6 h
  have hp : 2 ^ k < 1048576 := Nat.lt_of_le_of_lt (Nat.pow_le_pow_right (by omega) (show k ≤ 15 by omega)) (by decide)
  have hbit : ∀ k', codeLess L k / 2 ^ k' % 2 = 1 ↔ codeOf L / 2 ^ k' % 2 = 1 ∧ k' ≠ k := fun k' => by
    rw [mod_bit, mod_bit]
    unfold codeLess
    rw [less_bits hc hp, Nat.testBit_two_pow]
    simp only [Bool.and_eq_true, Bool.not_eq_true', decide_eq_false_iff_not, ne_eq]
    constructor
    · exact fun ⟨a, b⟩ => ⟨a, fun e => b e.symm⟩
    · exact fun ⟨a, b⟩ => ⟨a, fun e => b e.symm⟩
  have he := rows_get h
  rw [codeG_bt, graph_bt hg]
  constructor
  · rintro ⟨k', e', h1, h2, h3⟩
    obtain ⟨h4, h5⟩ := (hbit k').1 h2
    refine ⟨⟨k', e', h1, h4, h3⟩, fun h7 => h5 ?_⟩
    have h8 := either_pair he.1 (rows_get h1).1 h7 h3
    subst h8
    exact rows_inj h6 h1 h
  · rintro ⟨⟨k', e', h1, h2, h3⟩, h4⟩
    refine ⟨k', e', h1, (hbit k').2 ⟨h2, fun h5 => h4 ?_⟩, h3⟩
    subst h5
    rw [h] at h1
    cases h1
    exact h3
theorem xor_bit (x m j : Nat) (h : x.testBit m = true) : (x ^^^ 2 ^ m).testBit j = (x.testBit j && !decide (m = j)) := by
  rw [Nat.testBit_xor, Nat.testBit_two_pow]
  by_cases hj : m = j
  · subst hj; simp [h]
  · simp [hj]
/-- **To take an edge away is to take its place out of the code.** -/
theorem flip_code {L : List Int} (hg : IsGraph L) {k : Nat} {e : Nat × Nat} (h : (rows L.length)[k]? = some e) (hb : bt L e.1 e.2 = 1) : flipG L e.1 e.2 = codeG L.length (codeLess L k) := by
  have he := rows_get h
  have hba : bt L e.2 e.1 = 1 := (bt_sym hg he.2 (by omega)).trans hb
  refine List.ext_getElem (by rw [flipG_length, codeG_length]) fun i h0 h2 => ?_
  have h1 : i < L.length := by rw [flipG_length] at h0; exact h0
  have e1 : (flipG L e.1 e.2)[i] = (flipG L e.1 e.2)[i]?.getD 0 := by rw [List.getElem?_eq_getElem h0]; rfl
  have e2 : (codeG L.length (codeLess L k))[i] = (((ofCode L.length (codeLess L k))[i]?.getD 0 : Nat) : Int) := by
    have h3 := ints_get (ofCode L.length (codeLess L k)) i
    rw [← h3]
    show _ = (codeG L.length (codeLess L k))[i]?.getD 0
    rw [List.getElem?_eq_getElem h2]; rfl
  have hbits : ∀ x : Nat, (∀ j, x.testBit j = true ↔ bt L i j = 1 ∧ ¬ Either e i j) → x = (ofCode L.length (codeLess L k))[i]?.getD 0 := fun x hx => by
    refine Nat.eq_of_testBit_eq fun j => ?_
    have h3 := hx j
    have h4 := less_bt hg h i j
    unfold codeG at h4
    rw [bt_ints] at h4
    rw [Bool.eq_iff_iff, h3, h4]
  rw [e1, e2]
  unfold flipG
  by_cases hi2 : i = e.2
  · subst hi2
    rw [List.getElem?_set_self (by rw [List.length_set]; exact h1), Option.getD_some]
    congr 1
    refine hbits _ fun j => ?_
    rw [xor_bit _ _ _ ((bt_tb L _ _).1 hba), Bool.and_eq_true, ← bt_tb, Bool.not_eq_true', decide_eq_false_iff_not]
    unfold Either
    constructor
    · rintro ⟨a, b⟩; exact ⟨a, fun q => by rcases q with ⟨q1, q2⟩ | ⟨q1, q2⟩ <;> omega⟩
    · rintro ⟨a, b⟩; exact ⟨a, fun q => b (.inr ⟨rfl, q.symm⟩)⟩
  · rw [List.getElem?_set_ne (fun q => hi2 q.symm)]
    by_cases hi1 : i = e.1
    · subst hi1
      rw [List.getElem?_set_self h1, Option.getD_some]
      congr 1
      refine hbits _ fun j => ?_
      rw [xor_bit _ _ _ ((bt_tb L _ _).1 hb), Bool.and_eq_true, ← bt_tb, Bool.not_eq_true', decide_eq_false_iff_not]
      unfold Either
      constructor
      · rintro ⟨a, b⟩; exact ⟨a, fun q => by rcases q with ⟨q1, q2⟩ | ⟨q1, q2⟩ <;> omega⟩
      · rintro ⟨a, b⟩; exact ⟨a, fun q => b (.inl ⟨rfl, q.symm⟩)⟩
    · rw [List.getElem?_set_ne (fun q => hi1 q.symm)]
      have hin := ent_int (hg.2.2 i h1).1
      rw [hin]
      congr 1
      refine hbits _ fun j => ?_
      rw [← bt_tb]
      unfold Either
      constructor
      · exact fun a => ⟨a, fun q => by rcases q with ⟨q1, q2⟩ | ⟨q1, q2⟩ <;> omega⟩
      · exact fun a => a.1
theorem xor_bt {L : List Int} (hg : IsGraph L) {k : Nat} {e : Nat × Nat} (h : (rows L.length)[k]? = some e) (i j : Nat) :
    bt (codeG L.length (codeOf L ^^^ 2 ^ k)) i j = 1 ↔ (bt L i j = 1 ↔ ¬ Either e i j) := by
  have h6 := hg.2.1
  have hbit : ∀ k', (codeOf L ^^^ 2 ^ k) / 2 ^ k' % 2 = 1 ↔ ((codeOf L / 2 ^ k' % 2 = 1) ↔ k' ≠ k) := fun k' => by
    rw [mod_bit, mod_bit, Nat.testBit_xor, Nat.testBit_two_pow]
    by_cases hk : k = k'
    · subst hk
      cases (codeOf L).testBit k <;> simp
    · have hk' : k' ≠ k := fun q => hk q.symm
      cases (codeOf L).testBit k' <;> simp [hk, hk']
  have he := rows_get h
  rw [codeG_bt, graph_bt hg]
  by_cases hei : Either e i j
  · have uni : ∀ k' e', (rows L.length)[k']? = some e' → Either e' i j → k' = k := fun k' e' h1 h3 => by
      have h8 := either_pair he.1 (rows_get h1).1 hei h3
      subst h8
      exact rows_inj h6 h1 h
    constructor
    · rintro ⟨k', e', h1, h2, h3⟩
      have := uni k' e' h1 h3
      subst this
      refine ⟨fun _ q => ?_, fun q => absurd hei q⟩
      rename_i hex
      obtain ⟨k2, e2, g1, g2, g3⟩ := hex
      have := uni k2 e2 g1 g3
      subst this
      exact ((hbit k2).1 h2).1 g2 rfl
    · intro hh
      refine ⟨k, e, h, (hbit k).2 ⟨fun g2 => absurd hei (hh.1 ⟨k, e, h, g2, hei⟩), fun q => absurd rfl q⟩, hei⟩
  · have ne : ∀ k' e', (rows L.length)[k']? = some e' → Either e' i j → k' ≠ k := fun k' e' h1 h3 q => by
      subst q
      rw [h] at h1
      cases h1
      exact hei h3
    constructor
    · rintro ⟨k', e', h1, h2, h3⟩
      exact ⟨fun _ => hei, fun _ => ⟨k', e', h1, ((hbit k').1 h2).2 (ne k' e' h1 h3), h3⟩⟩
    · intro hh
      obtain ⟨k', e', h1, h2, h3⟩ := hh.2 hei
      exact ⟨k', e', h1, (hbit k').2 ⟨fun _ => ne k' e' h1 h3, fun _ => h2⟩, h3⟩
theorem flip_any {L : List Int} (hg : IsGraph L) {k : Nat} {e : Nat × Nat} (h : (rows L.length)[k]? = some e) : flipG L e.1 e.2 = codeG L.length (codeOf L ^^^ 2 ^ k) := by
  have he := rows_get h
  refine List.ext_getElem (by rw [flipG_length, codeG_length]) fun i h0 h2 => ?_
  have h1 : i < L.length := by rw [flipG_length] at h0; exact h0
  have e1 : (flipG L e.1 e.2)[i] = (flipG L e.1 e.2)[i]?.getD 0 := by rw [List.getElem?_eq_getElem h0]; rfl
  have e2 : (codeG L.length (codeOf L ^^^ 2 ^ k))[i] = (((ofCode L.length (codeOf L ^^^ 2 ^ k))[i]?.getD 0 : Nat) : Int) := by
    have h3 := ints_get (ofCode L.length (codeOf L ^^^ 2 ^ k)) i
    rw [← h3]
    show _ = (codeG L.length (codeOf L ^^^ 2 ^ k))[i]?.getD 0
    rw [List.getElem?_eq_getElem h2]; rfl
  have hbits : ∀ x : Nat, (∀ j, x.testBit j = true ↔ (bt L i j = 1 ↔ ¬ Either e i j)) → x = (ofCode L.length (codeOf L ^^^ 2 ^ k))[i]?.getD 0 := fun x hx => by
    refine Nat.eq_of_testBit_eq fun j => ?_
    have h3 := hx j
    have h4 := xor_bt hg h i j
    unfold codeG at h4
    rw [bt_ints] at h4
    rw [Bool.eq_iff_iff, h3, h4]
  have turn : ∀ (x m j : Nat) (Q : Prop), (Q ↔ m = j) → ((x ^^^ 2 ^ m).testBit j = true ↔ (x.testBit j = true ↔ ¬ Q)) := fun x m j Q hq => by
    rw [Nat.testBit_xor, Nat.testBit_two_pow, hq]
    by_cases hj : m = j <;> cases x.testBit j <;> simp [hj]
  rw [e1, e2]
  unfold flipG
  by_cases hi2 : i = e.2
  · subst hi2
    rw [List.getElem?_set_self (by rw [List.length_set]; exact h1), Option.getD_some]
    congr 1
    refine hbits _ fun j => ?_
    rw [bt_tb]
    refine turn _ _ _ _ ?_
    unfold Either
    constructor
    · rintro (⟨q1, q2⟩ | ⟨q1, q2⟩) <;> omega
    · exact fun q => .inr ⟨rfl, q.symm⟩
  · rw [List.getElem?_set_ne (fun q => hi2 q.symm)]
    by_cases hi1 : i = e.1
    · subst hi1
      rw [List.getElem?_set_self h1, Option.getD_some]
      congr 1
      refine hbits _ fun j => ?_
      rw [bt_tb]
      refine turn _ _ _ _ ?_
      unfold Either
      constructor
      · rintro (⟨q1, q2⟩ | ⟨q1, q2⟩) <;> omega
      · exact fun q => .inl ⟨rfl, q.symm⟩
    · rw [List.getElem?_set_ne (fun q => hi1 q.symm)]
      have hin := ent_int (hg.2.2 i h1).1
      rw [hin]
      congr 1
      refine hbits _ fun j => ?_
      rw [← bt_tb]
      have hne : ¬ Either e i j := by
        unfold Either
        rintro (⟨q1, q2⟩ | ⟨q1, q2⟩) <;> omega
      exact ⟨fun a => ⟨fun _ => hne, fun _ => a⟩, fun a => a.2 hne⟩
theorem flip_graph {L : List Int} (hg : IsGraph L) {a b : Nat} (h : a < b) (h2 : b < L.length) : IsGraph (flipG L a b) := by
  obtain ⟨k, hk⟩ := rows_at h h2
  rw [flip_any hg hk]
  exact codeG_graph _ hg.1 hg.2.1

/-- The cards of some edges; of the first places. -/
def ecards (L : List Int) (es : List (Nat × Nat)) : List Int := ints (es.map fun e => leastL (flipG L e.1 e.2))
theorem ecards_snoc (L : List Int) (es : List (Nat × Nat)) (e : Nat × Nat) : ecards L (es ++ [e]) = ecards L es ++ [((leastL (flipG L e.1 e.2) : Nat) : Int)] := by simp [ecards, ints]
theorem ecards_length (L : List Int) (es : List (Nat × Nat)) : (ecards L es).length = es.length := by simp [ecards, ints]
def edTo (L : List Int) : Nat → List Int
  | 0 => []
  | k + 1 => edTo L k ++ (if codeOf L / 2 ^ k % 2 = 1 then [((leastL (codeG L.length (codeLess L k)) : Nat) : Int)] else [])
theorem edTo_length (L : List Int) (k : Nat) : (edTo L k).length ≤ k := by
  induction k with
  | zero => exact Nat.le_refl _
  | succ k ih =>
    show (edTo L k ++ _).length ≤ k + 1
    rw [List.length_append]
    split
    · simp; omega
    · simp; omega
theorem edTo_eq {L : List Int} (hg : IsGraph L) (k : Nat) (hk : k ≤ (rows L.length).length) : edTo L k = ecards L (edgesIn L ((rows L.length).take k)) := by
  induction k with
  | zero => rfl
  | succ k ih =>
    have hlt : k < (rows L.length).length := by omega
    have he := List.getElem?_eq_getElem hlt
    show edTo L k ++ _ = _
    rw [ih (by omega), List.take_succ_eq_append_getElem hlt]
    have hcb := code_bit he
    unfold edgesIn
    rw [List.filter_append]
    by_cases hb : bt L ((rows L.length)[k]).1 ((rows L.length)[k]).2 = 1
    · rw [if_pos (hcb.trans hb)]
      have h1 : [(rows L.length)[k]].filter (fun p => bt L p.1 p.2 == 1) = [(rows L.length)[k]] := by simp [hb]
      rw [h1, ecards_snoc, flip_code hg he hb]
    · rw [if_neg (by rw [hcb]; exact hb)]
      have h1 : [(rows L.length)[k]].filter (fun p => bt L p.1 p.2 == 1) = [] := by simp [hb]
      rw [h1, List.append_nil, List.append_nil]
/-- The edge deck. -/
def edgeDeckL (L : List Int) : List Int := sortL (edTo L (rows L.length).length)
theorem edgeDeck_eq {L : List Int} (hg : IsGraph L) : edgeDeckL L = sortL (ecards L (edgesIn L (rows L.length))) := by
  unfold edgeDeckL
  rw [edTo_eq hg _ (Nat.le_refl _), List.take_length]
theorem edgeDeckL_length (L : List Int) (h : L.length ≤ 6) : (edgeDeckL L).length ≤ 15 := by
  unfold edgeDeckL
  rw [sortL_length]
  exact Nat.le_trans (edTo_length L _) (rows_length _ h)
end Go.Proofs.YtkngijkhhonikaaDoor
