/- Greedy colours: by sets of nodes of one colour, and by a list of colours. Plain mathematics. -/
import Derived.Test.YtcblcifnpgmibaaDoorSetMath
namespace Go.Proofs.YtcblcifnpgmibaaDoor
open Go Go.RowKit
set_option linter.unusedVariables false
set_option maxRecDepth 100000

/-- The least colour from c on whose nodes are no neighbours. -/
def lstC (cs : List Nat) (e : Nat) : Nat → Nat → Nat
  | 0, c => c
  | f + 1, c => if cs[c]?.getD 0 &&& e = 0 then c else lstC cs e f (c + 1)
def colN (cs : List Nat) (e : Nat) : Nat := lstC cs e 6 0
theorem lst_facts (cs : List Nat) (e : Nat) (f : Nat) : ∀ c, (∃ d, c ≤ d ∧ d < c + f ∧ cs[d]?.getD 0 &&& e = 0) → cs[lstC cs e f c]?.getD 0 &&& e = 0 ∧ c ≤ lstC cs e f c ∧ ∀ j, c ≤ j → cs[j]?.getD 0 &&& e = 0 → lstC cs e f c ≤ j := by
  induction f with
  | zero => rintro c ⟨d, h1, h2, _⟩; omega
  | succ f ih =>
    rintro c ⟨d, h1, h2, h3⟩
    unfold lstC
    by_cases h0 : cs[c]?.getD 0 &&& e = 0
    · rw [if_pos h0]
      exact ⟨h0, Nat.le_refl _, fun j hj _ => hj⟩
    · rw [if_neg h0]
      have hdc : d ≠ c := fun x => by subst x; exact h0 h3
      obtain ⟨q1, q2, q3⟩ := ih (c + 1) ⟨d, by omega, by omega, h3⟩
      refine ⟨q1, by omega, fun j hj hz => ?_⟩
      have hjc : j ≠ c := fun x => by subst x; exact h0 hz
      exact q3 j (by omega) hz
theorem col_facts {cs : List Nat} {e d : Nat} (hd : d < 6) (h : cs[d]?.getD 0 &&& e = 0) : cs[colN cs e]?.getD 0 &&& e = 0 ∧ colN cs e ≤ d ∧ ∀ j, j < colN cs e → cs[j]?.getD 0 &&& e ≠ 0 := by
  obtain ⟨q1, q2, q3⟩ := lst_facts cs e 6 0 ⟨d, Nat.zero_le _, by omega, h⟩
  exact ⟨q1, q3 d (Nat.zero_le _) h, fun j hj hz => by have := q3 j (Nat.zero_le _) hz; unfold colN at hj; omega⟩

/-- One node coloured: the sets by colour, and the colours. -/
def gst (L : List Int) (s : List Nat × List Nat) (v : Nat) : List Nat × List Nat := (s.1.set (colN s.1 (ent L v)) (s.1[colN s.1 (ent L v)]?.getD 0 ||| 2 ^ v), s.2.set v (colN s.1 (ent L v)))
def gS (L : List Int) (n : Nat) (vs : List Nat) : List Nat × List Nat := vs.foldl (gst L) (List.replicate n 0, List.replicate n 0)
theorem gS_snoc (L : List Int) (n : Nat) (vs : List Nat) (v : Nat) : gS L n (vs ++ [v]) = gst L (gS L n vs) v := by simp [gS]
theorem gS_length (L : List Int) (n : Nat) (vs : List Nat) : (gS L n vs).1.length = n ∧ (gS L n vs).2.length = n := by
  induction vs using snoc_ind with
  | h0 => simp [gS]
  | h1 l x ih => rw [gS_snoc]; unfold gst; simp [ih.1, ih.2]
theorem gS_high (L : List Int) {n : Nat} (h6 : n ≤ 6) (vs : List Nat) (hl : vs.length ≤ n) : ∀ c, vs.length ≤ c → (gS L n vs).1[c]?.getD 0 = 0 := by
  induction vs using snoc_ind with
  | h0 => intro c _; show (List.replicate n 0)[c]?.getD 0 = 0; rw [List.getElem?_replicate]; split <;> rfl
  | h1 l x ih =>
    rw [List.length_append, List.length_singleton] at hl ⊢
    intro c hc
    have h1 := ih (by omega)
    have h2 := (col_facts (cs := (gS L n l).1) (e := ent L x) (d := l.length) (by omega) (by rw [h1 _ (Nat.le_refl _), Nat.zero_and])).2.1
    rw [gS_snoc]
    show ((gS L n l).1.set _ _)[c]?.getD 0 = 0
    rw [List.getElem?_set, if_neg (by omega)]
    exact h1 c (by omega)
/-- The colour of a node: at most the number of those ahead of it. -/
theorem gS_col (L : List Int) {n : Nat} (h6 : n ≤ 6) (vs : List Nat) (v : Nat) (hl : vs.length < n) : (gS L n vs).1[colN (gS L n vs).1 (ent L v)]?.getD 0 &&& ent L v = 0 ∧ colN (gS L n vs).1 (ent L v) ≤ vs.length ∧
    ∀ j, j < colN (gS L n vs).1 (ent L v) → (gS L n vs).1[j]?.getD 0 &&& ent L v ≠ 0 :=
  col_facts (by omega) (by rw [gS_high L h6 vs (by omega) _ (Nat.le_refl _), Nat.zero_and])
theorem gS_small (L : List Int) (n : Nat) (vs : List Nat) (hv : ∀ v ∈ vs, v < 6) : ∀ c : Nat, (gS L n vs).1[c]?.getD 0 < 64 := by
  induction vs using snoc_ind with
  | h0 => intro c; show (List.replicate n 0)[c]?.getD 0 < 64; rw [List.getElem?_replicate]; split <;> decide
  | h1 l x ih =>
    intro c
    have h1 := ih fun v h => hv v (by simp [h])
    rw [gS_snoc]
    show ((gS L n l).1.set _ _)[c]?.getD 0 < 64
    rw [List.getElem?_set]
    split
    · split
      · exact Nat.or_lt_two_pow (n := 6) (h1 _) (Nat.lt_of_le_of_lt (pow_le x 5 (by have := hv x (by simp); omega)) (by decide))
      · decide
    · exact h1 c
theorem gS_bit (L : List Int) {n : Nat} (h6 : n ≤ 6) (vs : List Nat) (hl : vs.length ≤ n) (hv : ∀ v ∈ vs, v < n) (hd : vs.Nodup) :
    ∀ c w, c < n → (((gS L n vs).1[c]?.getD 0).testBit w = true ↔ w ∈ vs ∧ (gS L n vs).2[w]?.getD 0 = c) := by
  induction vs using snoc_ind with
  | h0 =>
    intro c w _
    have : (gS L n []).1[c]?.getD 0 = 0 := gS_high L h6 [] (Nat.zero_le _) c (Nat.zero_le _)
    rw [this]
    simp
  | h1 l x ih =>
    rw [List.length_append, List.length_singleton] at hl
    have hx := hv x (by simp)
    have hxl : x ∉ l := fun hm => by
      rw [List.nodup_append] at hd
      exact hd.2.2 x hm x (by simp) rfl
    have ih' := ih (by omega) (fun v h => hv v (by simp [h])) (List.nodup_append.1 hd).1
    obtain ⟨_, q2, _⟩ := gS_col L h6 l x (by omega)
    obtain ⟨g1, g2⟩ := gS_length L n l
    intro c w hc
    rw [gS_snoc]
    show ((((gS L n l).1.set _ _)[c]?.getD 0).testBit w = true ↔ w ∈ l ++ [x] ∧ ((gS L n l).2.set x _)[w]?.getD 0 = c)
    obtain ⟨k, ek⟩ : ∃ k, k = colN (gS L n l).1 (ent L x) := ⟨_, rfl⟩
    rw [← ek] at q2 ⊢
    rw [List.getElem?_set, List.getElem?_set, g1, g2]
    by_cases hwx : x = w
    · subst hwx
      rw [if_pos rfl, if_pos hx]
      by_cases hkc : k = c
      · subst hkc
        rw [if_pos rfl, if_pos hc]
        simp [Nat.testBit_or, Nat.testBit_two_pow_self]
      · rw [if_neg hkc, ih' c x hc]
        simp [hxl, hkc]
    · rw [if_neg hwx]
      have hm : w ∈ l ++ [x] ↔ w ∈ l := by
        rw [List.mem_append, List.mem_singleton]
        constructor
        · rintro (h | h)
          · exact h
          · exact absurd h.symm hwx
        · exact .inl
      rw [hm, ← ih' c w hc]
      by_cases hkc : k = c
      · subst hkc
        rw [if_pos rfl, if_pos hc]
        simp only [Option.getD_some]
        rw [Nat.testBit_or, Nat.testBit_two_pow, decide_eq_false hwx, Bool.or_false]
      · rw [if_neg hkc]

/-! ### as the model finds the colour -/
def metG (vs : List Nat) : Nat := vs.foldl (fun m v => m ||| 2 ^ v) 0
theorem metG_snoc (vs : List Nat) (v : Nat) : metG (vs ++ [v]) = metG vs ||| 2 ^ v := by simp [metG]
theorem metG_bit (vs : List Nat) (w : Nat) : (metG vs).testBit w = true ↔ w ∈ vs := by
  induction vs using snoc_ind with
  | h0 => simp [metG]
  | h1 l x ih =>
    rw [metG_snoc, Nat.testBit_or, Bool.or_eq_true, ih, Nat.testBit_two_pow, decide_eq_true_eq, List.mem_append, List.mem_singleton]
    constructor
    · rintro (h | h)
      · exact .inl h
      · exact .inr h.symm
    · rintro (h | h)
      · exact .inl h
      · exact .inr h.symm
theorem metG_lt (vs : List Nat) (hv : ∀ v ∈ vs, v < 6) : metG vs < 64 := by
  induction vs using snoc_ind with
  | h0 => show 0 < 64; decide
  | h1 l x ih => rw [metG_snoc]; exact Nat.or_lt_two_pow (n := 6) (ih fun v h => hv v (by simp [h])) (Nat.lt_of_le_of_lt (pow_le x 5 (by have := hv x (by simp); omega)) (by decide))
def usStep (out : List Nat) (y u w : Nat) : Nat := if inS y w = true then u ||| 2 ^ (out[w]?.getD 0) else u
/-- The colours of the neighbours up to some node. -/
def usTo (out : List Nat) (y k : Nat) : Nat := (List.range k).foldl (usStep out y) 0
theorem usTo_succ (out : List Nat) (y k : Nat) : usTo out y (k + 1) = usStep out y (usTo out y k) k := by simp [usTo, List.range_succ]
theorem usTo_bit (out : List Nat) (y k c : Nat) : (usTo out y k).testBit c = true ↔ ∃ w, w < k ∧ inS y w = true ∧ out[w]?.getD 0 = c := by
  induction k with
  | zero => simp [usTo]
  | succ k ih =>
    rw [usTo_succ]
    unfold usStep
    by_cases hk : inS y k = true
    · rw [if_pos hk, Nat.testBit_or, Bool.or_eq_true, ih, Nat.testBit_two_pow, decide_eq_true_eq]
      constructor
      · rintro (⟨w, h1, h2, h3⟩ | h)
        · exact ⟨w, by omega, h2, h3⟩
        · exact ⟨k, by omega, hk, h⟩
      · rintro ⟨w, h1, h2, h3⟩
        by_cases hw : w = k
        · subst hw; exact .inr h3
        · exact .inl ⟨w, by omega, h2, h3⟩
    · rw [if_neg hk, ih]
      constructor
      · rintro ⟨w, h1, h2, h3⟩; exact ⟨w, by omega, h2, h3⟩
      · rintro ⟨w, h1, h2, h3⟩
        by_cases hw : w = k
        · subst hw; exact absurd h2 hk
        · exact ⟨w, by omega, h2, h3⟩
theorem usTo_lt (out : List Nat) (y k : Nat) (ho : ∀ w : Nat, out[w]?.getD 0 < 6) : usTo out y k < 64 := by
  induction k with
  | zero => show 0 < 64; decide
  | succ k ih =>
    rw [usTo_succ]
    unfold usStep
    split
    · exact Nat.or_lt_two_pow (n := 6) ih (Nat.lt_of_le_of_lt (pow_le _ 5 (by have := ho k; omega)) (by decide))
    · exact ih
theorem gS_out_lt (L : List Int) {n : Nat} (h6 : n ≤ 6) (h1 : 1 ≤ n) (vs : List Nat) (hl : vs.length ≤ n) : ∀ w : Nat, (gS L n vs).2[w]?.getD 0 < 6 := by
  induction vs using snoc_ind with
  | h0 => intro w; show (List.replicate n 0)[w]?.getD 0 < 6; rw [List.getElem?_replicate]; split <;> decide
  | h1 l x ih =>
    rw [List.length_append, List.length_singleton] at hl
    intro w
    have h2 := ih (by omega)
    obtain ⟨_, q2, _⟩ := gS_col L h6 l x (by omega)
    rw [gS_snoc]
    show ((gS L n l).2.set x _)[w]?.getD 0 < 6
    rw [List.getElem?_set]
    split
    · split
      · simp only [Option.getD_some]; omega
      · decide
    · exact h2 w
theorem gS_zero (L : List Int) (n : Nat) (vs : List Nat) (v : Nat) (hv : v ∉ vs) : (gS L n vs).2[v]?.getD 0 = 0 := by
  induction vs using snoc_ind with
  | h0 => show (List.replicate n 0)[v]?.getD 0 = 0; rw [List.getElem?_replicate]; split <;> rfl
  | h1 l x ih =>
    rw [gS_snoc]
    show ((gS L n l).2.set x _)[v]?.getD 0 = 0
    rw [List.getElem?_set, if_neg (fun e => hv (by simp [e]))]
    exact ih fun h => hv (by simp [h])
/-- The model's search finds the same colour. -/
theorem us_col {L : List Int} {n : Nat} (h6 : n ≤ 6) (vs : List Nat) (v : Nat) (hl : vs.length < n) (hv : ∀ v ∈ vs, v < n) (hd : vs.Nodup) :
    (usTo (gS L n vs).2 (ent L v &&& metG vs) n).testBit (colN (gS L n vs).1 (ent L v)) = false ∧ ∀ j, j < colN (gS L n vs).1 (ent L v) → (usTo (gS L n vs).2 (ent L v &&& metG vs) n).testBit j = true := by
  obtain ⟨q1, q2, q3⟩ := gS_col L h6 vs v hl
  have hb := gS_bit L h6 vs (by omega) hv hd
  have key : ∀ c, c < n → ((usTo (gS L n vs).2 (ent L v &&& metG vs) n).testBit c = true ↔ (gS L n vs).1[c]?.getD 0 &&& ent L v ≠ 0) := fun c hc => by
    rw [usTo_bit]
    constructor
    · rintro ⟨w, h1, h2, h3⟩ h0
      unfold inS at h2
      rw [Nat.testBit_and, Bool.and_eq_true, metG_bit] at h2
      have h4 := (hb c w hc).2 ⟨h2.2, h3⟩
      have h5 : ((gS L n vs).1[c]?.getD 0 &&& ent L v).testBit w = true := by rw [Nat.testBit_and, h4, h2.1]; rfl
      rw [h0, Nat.zero_testBit] at h5
      cases h5
    · intro h0
      obtain ⟨w, hw⟩ := Nat.exists_testBit_of_ne_zero h0
      rw [Nat.testBit_and, Bool.and_eq_true] at hw
      obtain ⟨h1, h2⟩ := (hb c w hc).1 hw.1
      refine ⟨w, hv w h1, ?_, h2⟩
      unfold inS
      rw [Nat.testBit_and, hw.2, (metG_bit vs w).2 h1]; rfl
  refine ⟨?_, fun j hj => (key j (by omega)).2 (q3 j hj)⟩
  cases h : (usTo (gS L n vs).2 (ent L v &&& metG vs) n).testBit (colN (gS L n vs).1 (ent L v)) with
  | false => rfl
  | true => exact absurd q1 ((key _ (by omega)).1 h)
/-- What the iterator gives: each node with its colour. -/
def gP (L : List Int) (n : Nat) (vs : List Nat) : List (Nat × Nat) := (List.range vs.length).map fun k => (vs[k]?.getD 0, colN (gS L n (vs.take k)).1 (ent L (vs[k]?.getD 0)))
end Go.Proofs.YtcblcifnpgmibaaDoor
