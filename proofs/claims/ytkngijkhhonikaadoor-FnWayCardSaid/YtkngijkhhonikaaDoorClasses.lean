/- What does not change under naming need be shown for few graphs only: for 5 nodes those of the table of classes, for 6 nodes those whose first five nodes are one of these. Numbers of closed walks do not change under naming. Plain mathematics. -/
import Derived.Test.YtkngijkhhonikaaDoorDeckBackMath
import Derived.Test.YtkngijkhhonikaaDoorBaseW
namespace Go.Proofs.YtkngijkhhonikaaDoor
open Go Go.RowKit
set_option linter.unusedVariables false
set_option maxRecDepth 100000

theorem sumN_list (f : Nat → Nat) (n : Nat) : sumN f n = ((List.range n).map f).sum := by
  induction n with
  | zero => rfl
  | succ n ih => rw [sumN, ih, List.range_succ, List.map_append, List.sum_append]; simp
theorem names_range {n : Nat} {P : List Nat} (h : Names n n P) : P.Perm (List.range n) :=
  (List.perm_ext_iff_of_nodup h.2.1 List.nodup_range).2 fun x => by
    rw [List.mem_range]
    refine ⟨h.2.2 x, fun hx => ?_⟩
    obtain ⟨a, ha, e⟩ := at_surj h hx
    rw [← e]
    unfold at_
    rw [List.getElem?_eq_getElem (by rw [h.1]; exact ha)]
    exact List.getElem_mem _
theorem names_map {n : Nat} {P : List Nat} (h : Names n n P) (f : Nat → Nat) : (List.range n).map (fun u => f (at_ P u)) = P.map f := by
  apply List.ext_getElem?
  intro j
  rw [List.getElem?_map, List.getElem?_map]
  by_cases hj : j < n
  · rw [List.getElem?_range hj]
    show some (f (P[j]?.getD 0)) = _
    rw [List.getElem?_eq_getElem (show j < P.length by rw [h.1]; exact hj)]
    rfl
  · rw [List.getElem?_eq_none (by simp; omega), List.getElem?_eq_none (by rw [h.1]; omega)]
    rfl
/-- A sum over all nodes in another order. -/
theorem sumN_names {n : Nat} {P : List Nat} (h : Names n n P) (f : Nat → Nat) : sumN (fun u => f (at_ P u)) n = sumN f n := by
  rw [sumN_list, sumN_list, names_map h]
  exact ((names_range h).map f).sum_nat
theorem wk_named {L : List Int} {P : List Nat} (h : Names L.length L.length P) (k v w : Nat) (hv : v < L.length) (hw : w < L.length) : wk (namedL L P) k (at_ P v) (at_ P w) = wk L k v w := by
  induction k generalizing w with
  | zero =>
    show (if at_ P w = at_ P v then 1 else 0) = if w = v then 1 else 0
    by_cases e : w = v
    · rw [if_pos e, if_pos (by rw [e])]
    · rw [if_neg e, if_neg (fun e2 => e (at_inj h hw hv e2))]
  | succ k ih =>
    rw [wk, wk, namedL_length, ← sumN_names h]
    exact sumN_congr fun u hu => by rw [ih u hu, named_at h hu hw]
theorem closed_named {L : List Int} {P : List Nat} (h : Names L.length L.length P) (k : Nat) : closedN (namedL L P) k = closedN L k := by
  unfold closedN
  rw [namedL_length, ← sumN_names h]
  exact sumN_congr fun v hv => wk_named h k v v hv hv

/-! ### few graphs -/
/-- What must be shown for one graph alone of all that are alike to it. -/
def Tame (Q : List Int → Prop) : Prop := ∀ L P, IsGraph L → Names L.length L.length P → Q (namedL L P) → Q L
theorem firsts5_lt : ∀ e ∈ firsts5, e.1 < 1024 := by decide +kernel
theorem by_classes5 {Q : List Int → Prop} (ht : Tame Q) (h5 : ∀ e ∈ firsts5, Q (codeG 5 e.1)) {L : List Int} (hg : IsGraph L) (hl : L.length = 5) : Q L := by
  have hc : codeOf L < 1024 := by have h := code_lt L; rw [hl] at h; exact h
  obtain ⟨P, h1, h2⟩ := way5_all hc
  have hN : Names L.length L.length P := by rw [hl]; exact namesOk_names h1
  have hL := codeG_of hg
  rw [hl] at hL
  rw [hL] at h2
  obtain ⟨e, he, e1⟩ := List.mem_map.1 (firstOk_at first5 hc).1
  have h4 := codeG_of (named_graph hg hN)
  rw [namedL_length, hl, h2, ← e1] at h4
  refine ht L P hg hN ?_
  rw [← h4]
  exact h5 e he
theorem rows56 : ∀ t : Fin 10, (rows 6)[t.val]? = (rows 5)[t.val]? := by decide
theorem rows5_len : (rows 5).length = 10 := by decide
theorem snoc_names {P : List Nat} (h : Names 5 5 P) : Names 6 6 (P ++ [5]) := by
  refine ⟨by rw [List.length_append, h.1]; rfl, List.nodup_append.2 ⟨h.2.1, by simp, fun a ha b hb => ?_⟩, fun x hx => ?_⟩
  · have := h.2.2 a ha
    rw [List.mem_singleton] at hb
    omega
  · rcases List.mem_append.1 hx with hx | hx
    · exact Nat.lt_trans (h.2.2 x hx) (by decide)
    · rw [List.mem_singleton] at hx; omega
theorem snoc_at {P : List Nat} (h : Names 5 5 P) {a : Nat} (ha : a < 5) : at_ (P ++ [5]) a = at_ P a := by
  unfold at_
  rw [List.getElem?_append_left (by rw [h.1]; exact ha)]
/-- The bits of the first five nodes. -/
theorem low_bt {L : List Int} (hg : IsGraph L) (hl : L.length = 6) {a b : Nat} (ha : a < 5) (hb : b < 5) : bt (codeG 5 (codeOf L % 1024)) a b = bt L a b := by
  have hD := codeG_graph (n := 5) (codeOf L % 1024) (by decide) (by decide)
  have hDl := codeG_length 5 (codeOf L % 1024)
  have key : ∀ x y, x < y → y < 5 → bt (codeG 5 (codeOf L % 1024)) x y = bt L x y := fun x y hxy hy => by
    obtain ⟨t, h5⟩ := rows_at hxy hy
    have ht : t < 10 := by rw [← rows5_len]; exact (List.getElem?_eq_some_iff.1 h5).1
    have h6 : (rows L.length)[t]? = some (x, y) := by rw [hl, rows56 ⟨t, ht⟩]; exact h5
    have e1 := codeG_at (c := codeOf L % 1024) (by decide) h5
    have e2 := code_bit h6
    rw [e1, ← e2]
    have e3 : (codeOf L % 2 ^ 10) / 2 ^ t % 2 = codeOf L / 2 ^ t % 2 := by
      have h := Nat.testBit_mod_two_pow (codeOf L) 10 t
      rw [show decide (t < 10) = true by simpa using ht, Bool.true_and] at h
      rw [Nat.testBit_eq_decide_div_mod_eq, Nat.testBit_eq_decide_div_mod_eq, decide_eq_decide] at h
      omega
    exact e3
  rcases Nat.lt_trichotomy a b with h | h | h
  · exact key a b h hb
  · subst h
    have h1 := (hD.2.2 a (by rw [hDl]; exact ha)).2.1
    have h2 := (hg.2.2 a (by omega)).2.1
    first | (rw [h1, h2]) | omega
  · rw [bt_sym hD (by rw [hDl]; exact ha) (by rw [hDl]; exact hb), bt_sym hg (by omega) (by omega)]
    exact key b a h ha
theorem by_classes6 {Q : List Int → Prop} (ht : Tame Q) (h6 : ∀ e ∈ firsts5, ∀ s, s < 32 → Q (codeG 6 (e.1 + 1024 * s))) {L : List Int} (hg : IsGraph L) (hl : L.length = 6) : Q L := by
  have hc : codeOf L % 1024 < 1024 := Nat.mod_lt _ (by decide)
  have hD := codeG_graph (n := 5) (codeOf L % 1024) (by decide) (by decide)
  have hDl := codeG_length 5 (codeOf L % 1024)
  obtain ⟨P, h1, h2⟩ := way5_all hc
  have hP := namesOk_names h1
  have hPD : Names (codeG 5 (codeOf L % 1024)).length (codeG 5 (codeOf L % 1024)).length P := by rw [hDl]; exact hP
  have hN : Names L.length L.length (P ++ [5]) := by rw [hl]; exact snoc_names hP
  obtain ⟨e, he, e1⟩ := List.mem_map.1 (firstOk_at first5 hc).1
  rw [← e1] at h2
  have hM := named_graph hg hN
  have hMl : (namedL L (P ++ [5])).length = 6 := by rw [namedL_length, hl]
  have h4 := codeG_of hM
  rw [hMl] at h4
  have hlt : codeOf (namedL L (P ++ [5])) < 32768 := by have h := code_lt (namedL L (P ++ [5])); rw [hMl] at h; exact h
  have hmod : codeOf (namedL L (P ++ [5])) % 1024 = e.1 := by
    refine Nat.eq_of_testBit_eq fun t => ?_
    by_cases ht10 : t < 10
    · obtain ⟨⟨a, b⟩, h5⟩ : ∃ x, (rows 5)[t]? = some x := ⟨_, List.getElem?_eq_getElem (by rw [rows5_len]; exact ht10)⟩
      obtain ⟨hab, hb5⟩ := rows_get h5
      have hab' : a < b := hab
      have hb' : b < 5 := hb5
      obtain ⟨a', ha', ea⟩ := at_surj hP (show a < 5 by omega)
      obtain ⟨b', hb'', eb⟩ := at_surj hP hb'
      have e2 := code_bit (L := namedL L (P ++ [5])) (k := t) (e := (a, b)) (by rw [hMl, rows56 ⟨t, ht10⟩]; exact h5)
      have e3 := code_bit (L := namedL (codeG 5 (codeOf L % 1024)) P) (k := t) (e := (a, b)) (by rw [namedL_length, hDl]; exact h5)
      have e4 : bt (namedL L (P ++ [5])) a b = bt L a' b' := by
        have h := named_at hN (a := a') (b := b') (by omega) (by omega)
        rw [snoc_at hP ha', snoc_at hP hb'', ea, eb] at h
        exact h
      have e5 : bt (namedL (codeG 5 (codeOf L % 1024)) P) a b = bt (codeG 5 (codeOf L % 1024)) a' b' := by
        have h := named_at hPD (a := a') (b := b') (by rw [hDl]; exact ha') (by rw [hDl]; exact hb'')
        rw [ea, eb] at h
        exact h
      rw [h2] at e3
      have e6 : codeOf (namedL L (P ++ [5])) / 2 ^ t % 2 = e.1 / 2 ^ t % 2 := by
        rw [e2, e3]
        show bt _ a b = bt _ a b
        rw [e4, e5, low_bt hg hl ha' hb'']
      have h := Nat.testBit_mod_two_pow (codeOf (namedL L (P ++ [5]))) 10 t
      rw [show decide (t < 10) = true by simpa using ht10, Bool.true_and] at h
      rw [show (1024 : Nat) = 2 ^ 10 from rfl, h, Nat.testBit_eq_decide_div_mod_eq, Nat.testBit_eq_decide_div_mod_eq, e6]
    · have h := Nat.testBit_mod_two_pow (codeOf (namedL L (P ++ [5]))) 10 t
      rw [show decide (t < 10) = false by simpa using ht10, Bool.false_and] at h
      rw [show (1024 : Nat) = 2 ^ 10 from rfl, h]
      have h3 : e.1 < 2 ^ t := Nat.lt_of_lt_of_le (firsts5_lt e he) (Nat.pow_le_pow_right (n := 2) (by decide) (show 10 ≤ t by omega))
      rw [Nat.testBit_lt_two_pow h3]
  refine ht L _ hg hN ?_
  have hq := h6 e he (codeOf (namedL L (P ++ [5])) / 1024) (by omega)
  rw [show e.1 + 1024 * (codeOf (namedL L (P ++ [5])) / 1024) = codeOf (namedL L (P ++ [5])) by omega, h4] at hq
  exact hq
/-- **Few graphs.** -/
theorem by_classes {Q : List Int → Prop} (ht : Tame Q) (h14 : ∀ n, 1 ≤ n → n ≤ 4 → ∀ c, c < 2 ^ (rows n).length → Q (codeG n c)) (h5 : ∀ e ∈ firsts5, Q (codeG 5 e.1)) (h6 : ∀ e ∈ firsts5, ∀ s, s < 32 → Q (codeG 6 (e.1 + 1024 * s))) {L : List Int} (hg : IsGraph L) : Q L := by
  have h1 := hg.1
  have h2 := hg.2.1
  rcases Nat.lt_or_ge L.length 5 with h | h
  · rw [← codeG_of hg]
    exact h14 L.length h1 (by omega) _ (code_lt L)
  · rcases Nat.lt_or_ge L.length 6 with h' | h'
    · exact by_classes5 ht h5 hg (by omega)
    · exact by_classes6 ht h6 hg (by omega)
end Go.Proofs.YtkngijkhhonikaaDoor
