/- Texts in one: CodeMath, EdgeMath, NamedMath, NamesMath, NamesDef, Grid, PartMath, StillKit, Less, TryMath, RoundTail, Phases, Try, TrySucc, SeqO, Namings, LikeDef, LikeMath, LikesFn, CloneI, Likes, First, FirstLike, PermsMath, SpecCode, SpecNamed, AlikeMath, Codes, Group. -/
import Derived.Test.YtcemhepojjbcgaaDoorBaseA
import Derived.StillTailTactics
import Derived.Still
import Derived.RangeFuncBox
import Derived.StillTail
import Derived.StillTactics
import Derived.OrdersIn
import Derived.TacticsIn
import Derived.RangeFuncCalls
import Derived.OwnWalkIn
import Derived.RangeFuncNested
import Derived.RangeFuncBound
import Derived.RangeFuncLeaves
import Derived.RangeFuncFrom
import Derived.Laws.EntriesVeiled

/- The code of a graph, as plain mathematics. No condition. -/

namespace Go.Proofs.YtcemhepojjbcgaaDoor
open Go Go.RowKit

def cstep (L : List Int) (st : Nat × Nat) (p : Nat × Nat) : Nat × Nat := (st.1 ||| bt L p.1 p.2 * 2 ^ st.2, st.2 + 1)
def crun (L : List Int) (ps : List (Nat × Nat)) : Nat × Nat := ps.foldl (cstep L) (0, 0)
theorem crun_snoc (L : List Int) (ps : List (Nat × Nat)) (p : Nat × Nat) : crun L (ps ++ [p]) = cstep L (crun L ps) p := by simp [crun]
theorem crun_at (L : List Int) (ps : List (Nat × Nat)) : (crun L ps).2 = ps.length := by
  induction ps using snoc_ind with
  | h0 => rfl
  | h1 l x ih => rw [crun_snoc, List.length_append]; show (crun L l).2 + 1 = _; rw [ih]; rfl
theorem bt_le (L : List Int) (v w : Nat) : bt L v w ≤ 1 := by unfold bt; omega
theorem bit_shift {bit k m : Nat} (hb : bit ≤ 1) (hk : k < m) : bit * 2 ^ k < 2 ^ m := by
  have h1 : 2 ^ k < 2 ^ m := Nat.pow_lt_pow_right (by omega) hk
  have h2 : bit * 2 ^ k ≤ 1 * 2 ^ k := Nat.mul_le_mul_right _ hb
  omega
theorem crun_lt (L : List Int) (ps : List (Nat × Nat)) : (crun L ps).1 < 2 ^ ps.length := by
  induction ps using snoc_ind with
  | h0 => show 0 < 2 ^ 0; decide
  | h1 l x ih =>
    rw [crun_snoc, List.length_append]
    show (crun L l).1 ||| bt L x.1 x.2 * 2 ^ (crun L l).2 < 2 ^ (l.length + 1)
    rw [crun_at]
    refine Nat.or_lt_two_pow ?_ (bit_shift (bt_le _ _ _) (by omega))
    exact Nat.lt_of_lt_of_le ih (pow_le _ _ (by omega))
theorem crun_small (L : List Int) (ps : List (Nat × Nat)) (h : ps.length ≤ 15) : (crun L ps).1 < 32768 :=
  Nat.lt_of_lt_of_le (crun_lt L ps) (pow_le _ 15 h)
/-- The code of a list that is a graph. -/
def codeOf (L : List Int) : Nat := (crun L (rows L.length)).1

theorem wrap_shift (bit k p : Nat) (hb : bit ≤ 1) (hk : k < 40) (hp : p = bit * 2 ^ k) : wrap64 ((bit : Int) * 2 ^ k) = (p : Int) := by
  have h1 := bit_shift (m := 40) hb hk
  rw [← hp] at h1
  have e : (bit : Int) * 2 ^ k = (p : Int) := by rw [hp]; simp
  have h2 : (2 : Nat) ^ 40 = 1099511627776 := by decide
  rw [h2] at h1
  rw [e]
  unfold wrap64
  omega
end Go.Proofs.YtcemhepojjbcgaaDoor

/- The members of a code are the edges. Plain mathematics, no condition. -/

namespace Go.Proofs.YtcemhepojjbcgaaDoor
open Go Go.RowKit

/-- The ones among the last places. -/
def pcf : Nat → Nat → Nat
  | 0, _ => 0
  | f + 1, x => x % 2 + pcf f (x / 2)
theorem pcf_zero (f : Nat) : pcf f 0 = 0 := by
  induction f with
  | zero => rfl
  | succ f ih => show 0 % 2 + pcf f (0 / 2) = 0; rw [Nat.zero_div, ih]
theorem pcf_le (f x : Nat) : pcf f x ≤ f := by
  induction f generalizing x with
  | zero => exact Nat.le_refl _
  | succ f ih => show x % 2 + pcf f (x / 2) ≤ f + 1; have := ih (x / 2); omega
theorem pcf_add (f k q b : Nat) (hk : k < f) (hq : q < 2 ^ k) (hb : b ≤ 1) : pcf f (q + b * 2 ^ k) = pcf f q + b := by
  induction f generalizing k q with
  | zero => omega
  | succ f ih =>
    show (q + b * 2 ^ k) % 2 + pcf f ((q + b * 2 ^ k) / 2) = q % 2 + pcf f (q / 2) + b
    cases k with
    | zero =>
      have h0 : q = 0 := by simpa using hq
      subst h0
      have h1 : (0 + b * 2 ^ 0) = b := by simp
      have h2 : b / 2 = 0 := by omega
      rw [h1, h2, Nat.zero_div, pcf_zero]
      omega
    | succ k =>
      obtain ⟨p, hp⟩ : ∃ p, p = b * 2 ^ k := ⟨_, rfl⟩
      have e : b * 2 ^ (k + 1) = 2 * p := by rw [hp, Nat.pow_succ, ← Nat.mul_assoc]; omega
      have h1 : (q + 2 * p) % 2 = q % 2 := by omega
      have h2 : (q + 2 * p) / 2 = q / 2 + p := by omega
      have h3 : q / 2 < 2 ^ k := by rw [Nat.pow_succ] at hq; omega
      rw [e, h1, h2, hp, ih k (q / 2) (by omega) h3]
      omega

theorem or_add (q b k : Nat) (hq : q < 2 ^ k) : q ||| b * 2 ^ k = q + b * 2 ^ k := by
  have h := Nat.two_pow_add_eq_or_of_lt hq b
  rw [Nat.mul_comm b, Nat.or_comm, ← h]
  omega

/-- The edges among some pairs. -/
def edgesIn (L : List Int) (ps : List (Nat × Nat)) : List (Nat × Nat) := ps.filter (fun p => bt L p.1 p.2 == 1)
theorem pc_crun (L : List Int) (ps : List (Nat × Nat)) (h : ps.length ≤ 15) : pcf 15 (crun L ps).1 = (edgesIn L ps).length := by
  induction ps using snoc_ind with
  | h0 => show pcf 15 0 = 0; exact pcf_zero 15
  | h1 l x ih =>
    rw [List.length_append] at h
    have hl : l.length < 15 := by simp at h; omega
    rw [crun_snoc]
    show pcf 15 ((crun L l).1 ||| bt L x.1 x.2 * 2 ^ (crun L l).2) = _
    rw [crun_at, or_add _ _ _ (crun_lt L l), pcf_add 15 l.length _ _ hl (crun_lt L l) (bt_le _ _ _), ih (by omega)]
    unfold edgesIn
    rw [List.filter_append, List.length_append]
    have := bt_le L x.1 x.2
    by_cases h1 : bt L x.1 x.2 = 1
    · simp [h1]
    · have h0 : bt L x.1 x.2 = 0 := by omega
      simp [h0]
def edgesN (L : List Int) : Nat := pcf 15 (codeOf L)
theorem edgesN_le (L : List Int) : edgesN L ≤ 15 := pcf_le _ _
end Go.Proofs.YtcemhepojjbcgaaDoor

/- A graph with its nodes named: the model's way and the program's make one list. Plain mathematics, no condition. -/

namespace Go.Proofs.YtcemhepojjbcgaaDoor
open Go Go.RowKit

def orAt (g : List Nat) (a x : Nat) : List Nat := g.set a (g[a]?.getD 0 ||| x)
theorem orAt_length (g : List Nat) (a x : Nat) : (orAt g a x).length = g.length := by simp [orAt]
theorem orAt_bit (g : List Nat) (a x i j : Nat) (ha : a < g.length) : ((orAt g a x)[i]?.getD 0).testBit j = ((g[i]?.getD 0).testBit j || (decide (i = a) && x.testBit j)) := by
  unfold orAt
  by_cases h : i = a
  · subst h
    rw [List.getElem?_set_self ha]
    simp
  · rw [List.getElem?_set_ne (fun e => h e.symm)]
    simp [h]
theorem lnk_or (g : List Nat) (a b bit : Nat) : lnk g a b bit = orAt (orAt g a (bit * 2 ^ b)) b (bit * 2 ^ a) := rfl
theorem bit_test (bit b j : Nat) (h : bit ≤ 1) : (bit * 2 ^ b).testBit j = (decide (bit = 1) && decide (j = b)) := by
  by_cases h1 : bit = 1
  · subst h1
    rw [Nat.one_mul, Nat.testBit_two_pow]
    simp [eq_comm]
  · have h0 : bit = 0 := by omega
    subst h0
    simp

/-- The program's way: a link for each edge. -/
def lrun (n : Nat) (p : Nat → Nat) (es : List (Nat × Nat)) : List Nat := es.foldl (fun g e => lnk g (p e.1) (p e.2) 1) (List.replicate n 0)
theorem lrun_snoc (n : Nat) (p : Nat → Nat) (es : List (Nat × Nat)) (e : Nat × Nat) : lrun n p (es ++ [e]) = lnk (lrun n p es) (p e.1) (p e.2) 1 := by simp [lrun]
theorem lrun_length (n : Nat) (p : Nat → Nat) (es : List (Nat × Nat)) : (lrun n p es).length = n := by
  induction es using snoc_ind with
  | h0 => simp [lrun]
  | h1 l x ih => rw [lrun_snoc, lnk_length, ih]
theorem lrun_bit (n : Nat) (p : Nat → Nat) (hp : ∀ v, v < n → p v < n) (es : List (Nat × Nat)) (he : ∀ e ∈ es, e.1 < n ∧ e.2 < n) (i j : Nat) :
    ((lrun n p es)[i]?.getD 0).testBit j = true ↔ ∃ e ∈ es, (i = p e.1 ∧ j = p e.2) ∨ (i = p e.2 ∧ j = p e.1) := by
  induction es using snoc_ind with
  | h0 =>
    have h : ((lrun n p [])[i]?.getD 0) = 0 := by unfold lrun; by_cases h : i < n <;> simp [h]
    rw [h]; simp
  | h1 l x ih =>
    have hx := he x (by simp)
    have h1 := hp _ hx.1
    have h2 := hp _ hx.2
    rw [lrun_snoc, lnk_or, orAt_bit _ _ _ _ _ (by rw [orAt_length, lrun_length]; exact h2), orAt_bit _ _ _ _ _ (by rw [lrun_length]; exact h1), bit_test _ _ _ (Nat.le_refl 1), bit_test _ _ _ (Nat.le_refl 1)]
    simp only [Bool.or_eq_true, Bool.and_eq_true, decide_eq_true_eq, ih (fun e h => he e (by simp [h])), List.mem_append, List.mem_singleton]
    constructor
    · rintro ((⟨e, h, h'⟩ | ⟨a, _, b⟩) | ⟨a, _, b⟩)
      · exact ⟨e, .inl h, h'⟩
      · exact ⟨x, .inr rfl, .inl ⟨a, b⟩⟩
      · exact ⟨x, .inr rfl, .inr ⟨a, b⟩⟩
    · rintro ⟨e, (h | rfl), h'⟩
      · exact .inl (.inl ⟨e, h, h'⟩)
      · rcases h' with ⟨a, b⟩ | ⟨a, b⟩
        · exact .inl (.inr ⟨a, trivial, b⟩)
        · exact .inr ⟨a, trivial, b⟩

/-- The model's way: each place of each row. -/
def mrun (L : List Int) (n : Nat) (p : Nat → Nat) (vs : List (Nat × Nat)) : List Nat := vs.foldl (fun g e => orAt g (p e.1) (bt L e.1 e.2 * 2 ^ p e.2)) (List.replicate n 0)
theorem mrun_snoc (L : List Int) (n : Nat) (p : Nat → Nat) (es : List (Nat × Nat)) (e : Nat × Nat) : mrun L n p (es ++ [e]) = orAt (mrun L n p es) (p e.1) (bt L e.1 e.2 * 2 ^ p e.2) := by simp [mrun]
theorem mrun_length (L : List Int) (n : Nat) (p : Nat → Nat) (es : List (Nat × Nat)) : (mrun L n p es).length = n := by
  induction es using snoc_ind with
  | h0 => simp [mrun]
  | h1 l x ih => rw [mrun_snoc, orAt_length, ih]
theorem mrun_bit (L : List Int) (n : Nat) (p : Nat → Nat) (hp : ∀ v, v < n → p v < n) (es : List (Nat × Nat)) (he : ∀ e ∈ es, e.1 < n) (i j : Nat) :
    ((mrun L n p es)[i]?.getD 0).testBit j = true ↔ ∃ e ∈ es, bt L e.1 e.2 = 1 ∧ i = p e.1 ∧ j = p e.2 := by
  induction es using snoc_ind with
  | h0 =>
    have h : ((mrun L n p [])[i]?.getD 0) = 0 := by unfold mrun; by_cases h : i < n <;> simp [h]
    rw [h]; simp
  | h1 l x ih =>
    have h1 := hp _ (he x (by simp))
    rw [mrun_snoc, orAt_bit _ _ _ _ _ (by rw [mrun_length]; exact h1), bit_test _ _ _ (bt_le _ _ _)]
    simp only [Bool.or_eq_true, Bool.and_eq_true, decide_eq_true_eq, ih (fun e h => he e (by simp [h])), List.mem_append, List.mem_singleton]
    constructor
    · rintro (⟨e, h, h'⟩ | ⟨a, b, c⟩)
      · exact ⟨e, .inl h, h'⟩
      · exact ⟨x, .inr rfl, b, a, c⟩
    · rintro ⟨e, (h | rfl), h'⟩
      · exact .inl ⟨e, h, h'⟩
      · exact .inr ⟨h'.2.1, h'.1, h'.2.2⟩

theorem list_bits {a b : List Nat} (hl : a.length = b.length) (h : ∀ i j : Nat, (a[i]?.getD 0).testBit j = true ↔ (b[i]?.getD 0).testBit j = true) : a = b := by
  refine List.ext_getElem hl fun i h1 h2 => ?_
  have h3 : (a[i]?.getD 0) = (b[i]?.getD 0) := Nat.eq_of_testBit_eq fun j => by
    have h4 := h i j
    cases e1 : (a[i]?.getD 0).testBit j <;> cases e2 : (b[i]?.getD 0).testBit j <;> simp_all
  simpa [h1, h2] using h3

theorem rows_all (n a b : Nat) : (a, b) ∈ rows n ↔ a < b ∧ b < n := by
  constructor
  · exact fun h => rows_mem n (a, b) h
  · rintro ⟨h1, h2⟩
    unfold rows
    rw [List.mem_flatMap]
    exact ⟨b, by simpa using h2, by simpa using h1⟩
/-- **Both make one list**, where the graph is one, and each place has been met. -/
theorem named_eq (L : List Int) (hg : IsGraph L) (p : Nat → Nat) (hp : ∀ v, v < L.length → p v < L.length) (vs : List (Nat × Nat)) (hv : ∀ a b, (a, b) ∈ vs ↔ a < L.length ∧ b < L.length) :
    mrun L L.length p vs = lrun L.length p (edgesIn L (rows L.length)) := by
  have sym : ∀ a b, a < L.length → b < L.length → bt L a b = bt L b a := fun a b ha hb => by
    rcases Nat.lt_trichotomy a b with h | h | h
    · exact ((hg.2.2 b hb).2.2 a h).symm
    · rw [h]
    · exact (hg.2.2 a ha).2.2 b h
  refine list_bits (by rw [mrun_length, lrun_length]) fun i j => ?_
  rw [mrun_bit L _ p hp vs (fun e he => ((hv e.1 e.2).1 he).1), lrun_bit _ p hp]
  · constructor
    · rintro ⟨⟨a, b⟩, he, hb, hi, hj⟩
      obtain ⟨ha, hb'⟩ := (hv a b).1 he
      dsimp only at hb hi hj
      rcases Nat.lt_trichotomy a b with h | h | h
      · exact ⟨(a, b), by unfold edgesIn; rw [List.mem_filter]; exact ⟨(rows_all _ _ _).2 ⟨h, hb'⟩, by simpa using hb⟩, .inl ⟨hi, hj⟩⟩
      · subst h
        have := (hg.2.2 a ha).2.1
        omega
      · exact ⟨(b, a), by unfold edgesIn; rw [List.mem_filter]; exact ⟨(rows_all _ _ _).2 ⟨h, ha⟩, by simpa using (sym b a hb' ha).trans hb⟩, .inr ⟨hi, hj⟩⟩
    · rintro ⟨⟨a, b⟩, he, h⟩
      unfold edgesIn at he
      rw [List.mem_filter] at he
      obtain ⟨he, hb⟩ := he
      obtain ⟨h1, h2⟩ := (rows_all _ _ _).1 he
      have hb1 : bt L a b = 1 := by simpa using hb
      rcases h with ⟨hi, hj⟩ | ⟨hi, hj⟩
      · exact ⟨(a, b), (hv _ _).2 ⟨by omega, h2⟩, hb1, hi, hj⟩
      · exact ⟨(b, a), (hv _ _).2 ⟨h2, by omega⟩, (sym b a h2 (by omega)).trans hb1, hi, hj⟩
  · intro e he
    unfold edgesIn at he
    rw [List.mem_filter] at he
    have := rows_mem _ _ he.1
    omega
end Go.Proofs.YtcemhepojjbcgaaDoor

/- Names of nodes: each of n numbers once. Plain mathematics, no condition. -/

namespace Go.Proofs.YtcemhepojjbcgaaDoor
open Go Go.RowKit

theorem nodup_len {P Q : List Nat} (h : P.Nodup) (hs : ∀ x ∈ P, x ∈ Q) : P.length ≤ Q.length := by
  induction P generalizing Q with
  | nil => simp
  | cons x P ih =>
    obtain ⟨hx, hP⟩ := List.nodup_cons.1 h
    have hq := hs x (by simp)
    have h1 := ih hP (Q := Q.erase x) (fun y hy => (List.mem_erase_of_ne (fun (e : y = x) => hx (e ▸ hy))).2 (hs y (by simp [hy])))
    have h2 := List.length_erase_of_mem hq
    have h3 : 0 < Q.length := List.length_pos_of_mem hq
    rw [List.length_cons]
    omega

theorem dup_of_not {P : List Nat} (h : ¬ P.Nodup) : ∃ x, x ∈ P ∧ ∀ y ∈ P, y ∈ P.erase x := by
  induction P with
  | nil => simp at h
  | cons x P ih =>
    by_cases hx : x ∈ P
    · refine ⟨x, by simp, fun y hy => ?_⟩
      rw [List.erase_cons_head]
      rcases List.mem_cons.1 hy with rfl | h'
      · exact hx
      · exact h'
    · have hP : ¬ P.Nodup := fun hn => h (List.nodup_cons.2 ⟨hx, hn⟩)
      obtain ⟨z, hz, hall⟩ := ih hP
      have hxz : x ≠ z := fun e => hx (e ▸ hz)
      refine ⟨z, by simp [hz], fun y hy => ?_⟩
      rw [List.erase_cons_tail (by simpa using hxz)]
      rcases List.mem_cons.1 hy with rfl | h'
      · simp
      · simp [hall y h']

/-- The set of the numbers that have come. -/
def seenOf (P : List Nat) : Nat := P.foldl (fun s x => s ||| 2 ^ x) 0
theorem seenOf_snoc (P : List Nat) (x : Nat) : seenOf (P ++ [x]) = seenOf P ||| 2 ^ x := by simp [seenOf]
theorem seenOf_bit (P : List Nat) (j : Nat) : (seenOf P).testBit j = true ↔ j ∈ P := by
  induction P using snoc_ind with
  | h0 => simp [seenOf]
  | h1 l x ih => rw [seenOf_snoc, Nat.testBit_or, Nat.testBit_two_pow, Bool.or_eq_true, ih, decide_eq_true_eq, List.mem_append, List.mem_singleton]; exact or_congr Iff.rfl ⟨Eq.symm, Eq.symm⟩
theorem seenOf_lt (P : List Nat) (n : Nat) (h : ∀ x ∈ P, x < n) : seenOf P < 2 ^ n := by
  induction P using snoc_ind with
  | h0 => exact Nat.two_pow_pos n
  | h1 l x ih =>
    rw [seenOf_snoc]
    exact Nat.or_lt_two_pow (ih fun y hy => h y (by simp [hy])) (Nat.pow_lt_pow_right (by omega) (h x (by simp)))
theorem seenOf_full (P : List Nat) (n : Nat) (h : ∀ x ∈ P, x < n) : seenOf P = 2 ^ n - 1 ↔ ∀ j, j < n → j ∈ P := by
  constructor
  · intro e j hj
    rw [← seenOf_bit, e, Nat.testBit_two_pow_sub_one]
    simpa using hj
  · intro hall
    refine Nat.eq_of_testBit_eq fun j => ?_
    rw [Nat.testBit_two_pow_sub_one]
    by_cases hj : j < n
    · rw [(seenOf_bit P j).2 (hall j hj)]; simp [hj]
    · have : j ∉ P := fun hm => hj (h j hm)
      have h0 : (seenOf P).testBit j = false := by
        cases e : (seenOf P).testBit j
        · rfl
        · exact absurd ((seenOf_bit P j).1 e) this
      rw [h0]; simp [hj]
/-- n numbers below n: all have come just if none has come twice. -/
theorem names_iff (P : List Nat) (n : Nat) (hl : P.length = n) (h : ∀ x ∈ P, x < n) : seenOf P = 2 ^ n - 1 ↔ P.Nodup := by
  rw [seenOf_full P n h]
  constructor
  · intro hall
    refine Classical.byContradiction fun hn => ?_
    obtain ⟨x, hx, hk⟩ := dup_of_not hn
    have h1 := nodup_len (List.nodup_range (n := n)) (Q := P.erase x) (fun y hy => hk y (hall y (by simpa using hy)))
    have h2 := List.length_erase_of_mem hx
    have h3 : 0 < P.length := List.length_pos_of_mem hx
    rw [List.length_range] at h1
    omega
  · intro hn j hj
    refine Classical.byContradiction fun hm => ?_
    have h1 := nodup_len (List.nodup_cons.2 ⟨hm, hn⟩) (Q := List.range n) (fun y hy => by
      rcases List.mem_cons.1 hy with rfl | h'
      · simpa using hj
      · simpa using h y h')
    rw [List.length_cons, List.length_range] at h1
    omega
end Go.Proofs.YtcemhepojjbcgaaDoor

/- What names are: each of n numbers once. Plain mathematics, no condition. -/

namespace Go.Proofs.YtcemhepojjbcgaaDoor
open Go Go.RowKit
set_option linter.unusedVariables false

def natOf (P : List Int) : List Nat := P.map Int.toNat
def InN (P : List Int) (n k : Nat) : Prop := 0 ≤ P[k]?.getD 0 ∧ P[k]?.getD 0 < (n : Int)
def IsNames (P : List Int) (n : Nat) : Prop := P.length = n ∧ (∀ k, k < P.length → InN P n k) ∧ (natOf P).Nodup
theorem natOf_take (P : List Int) (k : Nat) (h : k < P.length) : (natOf P).take (k + 1) = (natOf P).take k ++ [(P[k]?.getD 0).toNat] := by
  unfold natOf
  rw [List.take_succ_eq_append_getElem (by simpa using h)]
  simp [h]
theorem natOf_mem {P : List Int} {n k : Nat} (h : ∀ u, u < k → InN P n u) (hk : k ≤ P.length) : ∀ x ∈ (natOf P).take k, x < n := by
  intro x hx
  obtain ⟨i, hi, rfl⟩ := List.mem_iff_getElem.1 hx
  simp [natOf] at hi ⊢
  have := h i (by omega)
  unfold InN at this
  have e : P[i]?.getD 0 = P[i] := by simp [show i < P.length by omega]
  rw [e] at this
  omega
theorem names_tell {P : List Int} {n : Nat} (hin : ∀ u, u < P.length → InN P n u) : (P.length = n ∧ seenOf (natOf P) = 2 ^ n - 1) ↔ IsNames P n := by
  have hm : ∀ x ∈ natOf P, x < n := by
    have := natOf_mem hin (Nat.le_refl _)
    rwa [show P.length = (natOf P).length by simp [natOf], List.take_length] at this
  constructor
  · rintro ⟨h1, h2⟩
    exact ⟨h1, hin, (names_iff _ n (by simpa [natOf] using h1) hm).1 h2⟩
  · rintro ⟨h1, _, h3⟩
    exact ⟨h1, (names_iff _ n (by simpa [natOf] using h1) hm).2 h3⟩

end Go.Proofs.YtcemhepojjbcgaaDoor

/- All places of a square, row by row; a name as a natural number. Plain mathematics, no condition. -/

namespace Go.Proofs.YtcemhepojjbcgaaDoor
open Go Go.RowKit

def grid (n v : Nat) : List (Nat × Nat) := (List.range v).flatMap fun a => (List.range n).map fun b => (a, b)
def gridTo (n v x : Nat) : List (Nat × Nat) := grid n v ++ (List.range x).map fun b => (v, b)
theorem grid_zero (n : Nat) : grid n 0 = [] := rfl
theorem gridTo_zero (n v : Nat) : gridTo n v 0 = grid n v := by simp [gridTo]
theorem gridTo_succ (n v x : Nat) : gridTo n v (x + 1) = gridTo n v x ++ [(v, x)] := by simp [gridTo, List.range_succ]
theorem gridTo_end (n v : Nat) : gridTo n v n = grid n (v + 1) := by simp [gridTo, grid, List.range_succ]
theorem grid_all (n a b : Nat) : (a, b) ∈ grid n n ↔ a < n ∧ b < n := by
  unfold grid
  simp
theorem gridTo_mem (n v x : Nat) (hv : v < n) (hx : x ≤ n) : ∀ e ∈ gridTo n v x, e.1 < n ∧ e.2 < n := by
  rintro ⟨a, b⟩ h
  unfold gridTo grid at h
  simp at h
  omega

/-- A name. -/
def nm (P : List Int) (v : Nat) : Nat := (P[v]?.getD 0).toNat
theorem nm_int {P : List Int} {n v : Nat} (h : IsNames P n) (hv : v < n) : P[v]?.getD 0 = (nm P v : Int) ∧ nm P v < n := by
  have h1 := h.2.1 v (by rw [h.1]; exact hv)
  unfold InN at h1
  unfold nm
  omega
theorem nm_ne {P : List Int} {n v x : Nat} (h : IsNames P n) (hv : v < n) (hx : x < n) (hne : v ≠ x) : nm P v ≠ nm P x := fun e => by
  have h1 := h.2.2
  have hl : (natOf P).length = n := by simp [natOf, h.1]
  have hv2 : v < P.length := by have := h.1; omega
  have hx2 : x < P.length := by have := h.1; omega
  have g1 : (natOf P)[v]'(by omega) = nm P v := by simp [natOf, nm, hv2]
  have g2 : (natOf P)[x]'(by omega) = nm P x := by simp [natOf, nm, hx2]
  have hp := List.pairwise_iff_getElem.1 h1
  rcases Nat.lt_or_gt_of_ne hne with h | h
  · exact hp v x (by omega) (by omega) h (by rw [g1, g2]; exact e)
  · exact hp x v (by omega) (by omega) h (by rw [g1, g2]; exact e.symm)
theorem mrun_lt (L : List Int) (n : Nat) (p : Nat → Nat) (es : List (Nat × Nat)) (hp : ∀ e ∈ es, p e.2 < 6) : ∀ x ∈ mrun L n p es, x < 2 ^ 6 := by
  induction es using snoc_ind with
  | h0 => intro x hx; simp [mrun] at hx; omega
  | h1 l x ih =>
    rw [mrun_snoc]
    unfold orAt
    have h1 := ih (fun e he => hp e (by simp [he]))
    refine set_lt h1 _ _ (Nat.or_lt_two_pow (get_lt h1 _ (by decide)) ?_)
    exact bit_shift (bt_le _ _ _) (hp x (by simp))
end Go.Proofs.YtcemhepojjbcgaaDoor

/- The graph of some nodes: the model's way and the program's make one list. Plain mathematics, no condition. -/

namespace Go.Proofs.YtcemhepojjbcgaaDoor
open Go Go.RowKit
set_option linter.unusedVariables false

/-- The node at a place. -/
def at_ (ns : List Nat) (i : Nat) : Nat := ns[i]?.getD 0
theorem at_lt {ns : List Nat} {n : Nat} (h : ∀ x ∈ ns, x < n) {i : Nat} (hi : i < ns.length) : at_ ns i < n := by
  unfold at_
  rw [List.getElem?_eq_getElem hi]
  exact h _ (List.getElem_mem _)
theorem ints_at {ns : List Nat} {i : Nat} (hi : i < ns.length) : (ints ns)[i]?.getD 0 = ((at_ ns i : Nat) : Int) := by rw [ints_get]; rfl
/-- The model's row of a node: the places of its neighbours. -/
def rowTo (L : List Int) (ns : List Nat) (a k : Nat) : Nat := (List.range k).foldl (fun r j => r ||| bt L a (at_ ns j) * 2 ^ j) 0
theorem rowTo_zero (L : List Int) (ns : List Nat) (a : Nat) : rowTo L ns a 0 = 0 := rfl
theorem rowTo_succ (L : List Int) (ns : List Nat) (a k : Nat) : rowTo L ns a (k + 1) = rowTo L ns a k ||| bt L a (at_ ns k) * 2 ^ k := by simp [rowTo, List.range_succ]
theorem rowTo_bit (L : List Int) (ns : List Nat) (a k j : Nat) : (rowTo L ns a k).testBit j = true ↔ j < k ∧ bt L a (at_ ns j) = 1 := by
  induction k with
  | zero => simp [rowTo]
  | succ k ih =>
    rw [rowTo_succ, Nat.testBit_or, Bool.or_eq_true, ih, bit_test _ _ _ (bt_le _ _ _)]
    simp only [Bool.and_eq_true, decide_eq_true_eq]
    constructor
    · rintro (⟨h1, h2⟩ | ⟨h1, h2⟩)
      · exact ⟨by omega, h2⟩
      · subst h2; exact ⟨by omega, h1⟩
    · rintro ⟨h1, h2⟩
      by_cases h : j = k
      · subst h; exact .inr ⟨h2, rfl⟩
      · exact .inl ⟨by omega, h2⟩
theorem rowTo_lt (L : List Int) (ns : List Nat) (a k : Nat) (hk : k ≤ 6) : rowTo L ns a k < 2 ^ 6 := by
  induction k with
  | zero => show 0 < 2 ^ 6; decide
  | succ k ih => rw [rowTo_succ]; exact Nat.or_lt_two_pow (ih (by omega)) (bit_shift (bt_le _ _ _) (by omega))
/-- The model's list, and its first rows. -/
def partTo (L : List Int) (ns : List Nat) (i : Nat) : List Nat := (List.range i).map fun x => rowTo L ns (at_ ns x) ns.length
theorem partTo_zero (L : List Int) (ns : List Nat) : partTo L ns 0 = [] := rfl
theorem partTo_succ (L : List Int) (ns : List Nat) (i : Nat) : partTo L ns (i + 1) = partTo L ns i ++ [rowTo L ns (at_ ns i) ns.length] := by simp [partTo, List.range_succ]
theorem partTo_length (L : List Int) (ns : List Nat) (i : Nat) : (partTo L ns i).length = i := by simp [partTo]
theorem partTo_bit (L : List Int) (ns : List Nat) (i j : Nat) : ((partTo L ns ns.length)[i]?.getD 0).testBit j = true ↔ i < ns.length ∧ j < ns.length ∧ bt L (at_ ns i) (at_ ns j) = 1 := by
  by_cases h : i < ns.length
  · have e : (partTo L ns ns.length)[i]?.getD 0 = rowTo L ns (at_ ns i) ns.length := by simp [partTo, h]
    rw [e, rowTo_bit]
    simp [h]
  · have e : (partTo L ns ns.length)[i]?.getD 0 = 0 := by simp [partTo, h]
    rw [e]
    simp [h]

/-- The program's edges among the nodes kept. -/
def keptIn (L : List Int) (ns : List Nat) (ps : List (Nat × Nat)) : List (Nat × Nat) := ps.filter fun e => bt L (at_ ns e.1) (at_ ns e.2) == 1
theorem keptIn_snoc (L : List Int) (ns : List Nat) (ps : List (Nat × Nat)) (e : Nat × Nat) : keptIn L ns (ps ++ [e]) = keptIn L ns ps ++ (if bt L (at_ ns e.1) (at_ ns e.2) = 1 then [e] else []) := by
  unfold keptIn
  rw [List.filter_append]
  by_cases h : bt L (at_ ns e.1) (at_ ns e.2) = 1 <;> simp [h]
theorem part_eq (L : List Int) (hg : IsGraph L) (ns : List Nat) (hns : ∀ x ∈ ns, x < L.length) : partTo L ns ns.length = lrun ns.length id (keptIn L ns (rows ns.length)) := by
  have hat : ∀ i, i < ns.length → at_ ns i < L.length := fun i hi => by
    unfold at_
    rw [List.getElem?_eq_getElem hi]
    exact hns _ (List.getElem_mem _)
  have sym : ∀ a b, a < L.length → b < L.length → bt L a b = bt L b a := fun a b ha hb => by
    rcases Nat.lt_trichotomy a b with h | h | h
    · exact ((hg.2.2 b hb).2.2 a h).symm
    · rw [h]
    · exact (hg.2.2 a ha).2.2 b h
  refine list_bits (by rw [partTo_length, lrun_length]) fun i j => ?_
  rw [partTo_bit, lrun_bit ns.length id (fun v hv => hv)]
  · constructor
    · rintro ⟨hi, hj, hb⟩
      rcases Nat.lt_trichotomy i j with h | h | h
      · exact ⟨(i, j), by unfold keptIn; rw [List.mem_filter]; exact ⟨(rows_all _ _ _).2 ⟨h, hj⟩, by simpa using hb⟩, .inl ⟨rfl, rfl⟩⟩
      · subst h
        have := (hg.2.2 _ (hat i hi)).2.1
        omega
      · exact ⟨(j, i), by unfold keptIn; rw [List.mem_filter]; exact ⟨(rows_all _ _ _).2 ⟨h, hi⟩, by simpa using (sym _ _ (hat j hj) (hat i hi)).trans hb⟩, .inr ⟨rfl, rfl⟩⟩
    · rintro ⟨⟨a, b⟩, he, h⟩
      unfold keptIn at he
      rw [List.mem_filter] at he
      obtain ⟨he, hb⟩ := he
      obtain ⟨h1, h2⟩ := (rows_all _ _ _).1 he
      have hb1 : bt L (at_ ns a) (at_ ns b) = 1 := by simpa using hb
      rcases h with ⟨hi, hj⟩ | ⟨hi, hj⟩
      · have hi : i = a := hi
        have hj : j = b := hj
        subst hi; subst hj
        exact ⟨by omega, h2, hb1⟩
      · have hi : i = b := hi
        have hj : j = a := hj
        subst hi; subst hj
        exact ⟨h2, by omega, (sym _ _ (hat _ h2) (hat _ (by omega))).trans hb1⟩
  · intro e he
    unfold keptIn at he
    rw [List.mem_filter] at he
    have := rows_mem _ _ he.1
    omega
theorem lrun_lt (n : Nat) (p : Nat → Nat) (es : List (Nat × Nat)) (h : ∀ e ∈ es, p e.1 < 6 ∧ p e.2 < 6) : ∀ x ∈ lrun n p es, x < 2 ^ 6 := by
  induction es using snoc_ind with
  | h0 => intro x hx; simp [lrun] at hx; omega
  | h1 l x ih =>
    rw [lrun_snoc]
    exact lnk_lt (ih (fun e he => h e (by simp [he]))) _ _ _ (h x (by simp)).1 (h x (by simp)).2 (Nat.le_refl 1)
end Go.Proofs.YtcemhepojjbcgaaDoor

/- Imports for regions that only read. -/


namespace Go.Proofs.YtcemhepojjbcgaaDoor
end Go.Proofs.YtcemhepojjbcgaaDoor

/- A set less another one. -/


namespace Go.Proofs.YtcemhepojjbcgaaDoor
open Go Go.RowKit

/-- The nodes of one set that are none of the other one's. -/
def less (a b : Nat) : Nat := a &&& (18446744073709551615 - b)
theorem less_le (a b : Nat) : less a b ≤ a := Nat.and_le_left
theorem less_op (a b : Nat) (ha : a < 1048576) (hb : b < 1048576) : bits .andNot .i64 (a : Int) (b : Int) = ((less a b : Nat) : Int) := i64_andNot_nat a b (by omega) (by omega)
end Go.Proofs.YtcemhepojjbcgaaDoor

/- Names tried one behind the other, leaving off where a beginning does not fit; what a try keeps of the world. -/





namespace Go.Proofs.YtcemhepojjbcgaaDoor
open Go Go.RowKit
set_option linter.unusedVariables false

/-- All names that begin with P, over the nodes of s, that come to the list. -/
def dfs (fit : List (List Nat) → List Nat → Bool) : Nat → List (List Nat) → List Nat → Nat → List (List Nat)
  | 0, acc, P, _ => acc ++ [P]
  | k + 1, acc, P, s => (nodesL s).foldl (fun acc v => if fit acc (P ++ [v]) = true then dfs fit k acc (P ++ [v]) (less s (2 ^ v)) else acc) acc
def stepF (fit : List (List Nat) → List Nat → Bool) (k : Nat) (P : List Nat) (s : Nat) (acc : List (List Nat)) (v : Nat) : List (List Nat) :=
  if fit acc (P ++ [v]) = true then dfs fit k acc (P ++ [v]) (less s (2 ^ v)) else acc
def runF (fit : List (List Nat) → List Nat → Bool) (k : Nat) (P : List Nat) (s : Nat) (acc : List (List Nat)) (vs : List Nat) : List (List Nat) := vs.foldl (stepF fit k P s) acc
theorem dfs_zero (fit : List (List Nat) → List Nat → Bool) (acc : List (List Nat)) (P : List Nat) (s : Nat) : dfs fit 0 acc P s = acc ++ [P] := rfl
theorem dfs_succ (fit : List (List Nat) → List Nat → Bool) (k : Nat) (acc : List (List Nat)) (P : List Nat) (s : Nat) : dfs fit (k + 1) acc P s = runF fit k P s acc (nodesL s) := rfl
theorem runF_nil (fit : List (List Nat) → List Nat → Bool) (k : Nat) (P : List Nat) (s : Nat) (acc : List (List Nat)) : runF fit k P s acc [] = acc := rfl
theorem runF_snoc (fit : List (List Nat) → List Nat → Bool) (k : Nat) (P : List Nat) (s : Nat) (acc : List (List Nat)) (vs : List Nat) (v : Nat) : runF fit k P s acc (vs ++ [v]) = stepF fit k P s (runF fit k P s acc vs) v := by simp [runF]
theorem run_pre {f : List (List Nat) → Nat → List (List Nat)} (hf : ∀ acc v, acc <+: f acc v) (vs : List Nat) (acc : List (List Nat)) : acc <+: vs.foldl f acc := by
  induction vs generalizing acc with
  | nil => exact List.prefix_refl _
  | cons v vs ih => exact (hf acc v).trans (ih _)
theorem dfs_pre (fit : List (List Nat) → List Nat → Bool) (k : Nat) : ∀ (acc : List (List Nat)) (P : List Nat) (s : Nat), acc <+: dfs fit k acc P s := by
  induction k with
  | zero => intro acc P s; exact List.prefix_append _ _
  | succ k ih =>
    intro acc P s
    rw [dfs_succ]
    refine run_pre (fun acc v => ?_) _ _
    unfold stepF
    split
    · exact ih _ _ _
    · exact List.prefix_refl _
theorem stepF_pre (fit : List (List Nat) → List Nat → Bool) (k : Nat) (P : List Nat) (s : Nat) (acc : List (List Nat)) (v : Nat) : acc <+: stepF fit k P s acc v := by
  unfold stepF
  split
  · exact dfs_pre _ _ _ _ _
  · exact List.prefix_refl _
theorem runF_mono (fit : List (List Nat) → List Nat → Bool) (k : Nat) (P : List Nat) (s : Nat) (acc : List (List Nat)) {vs us : List Nat} (h : vs <+: us) : runF fit k P s acc vs <+: runF fit k P s acc us := by
  obtain ⟨t, rfl⟩ := h
  unfold runF
  rw [List.foldl_append]
  exact run_pre (fun acc v => stepF_pre _ _ _ _ _ _) _ _

/-! ### sets -/
theorem less_bit : ∀ (s : Fin 64) (v : Fin 6), less s.val (2 ^ v.val) < 64 ∧ (s.val / 2 ^ v.val % 2 = 1 → nodesL (less s.val (2 ^ v.val)) = (nodesL s.val).filter (fun x => x != v.val) ∧ (nodesL (less s.val (2 ^ v.val))).length + 1 = (nodesL s.val).length) := by decide +kernel
theorem nodes_none : ∀ s : Fin 64, (nodesL s.val).length = 0 → s.val = 0 := by decide +kernel
theorem less_lt (s v m : Nat) (hs : s < 2 ^ m) : less s (2 ^ v) < 2 ^ m := Nat.lt_of_le_of_lt (less_le s (2 ^ v)) hs

/-! ### what is kept -/
/-- Every block from B on lies as it lay. -/
def Rest0 (B : Nat) (X Y : World) : Prop := X.heap.size ≤ Y.heap.size ∧ ∀ (k : Nat) (o : Obj), B ≤ k → X.heap[k]? = some o → Y.heap[k]? = some o
/-- The same, but for the list in the making and its box. -/
def RestP (B : Nat) (X Y : World) : Prop := X.heap.size ≤ Y.heap.size ∧ ∀ (k : Nat) (o : Obj), B ≤ k → k ≠ B + 1 → k ≠ B + 2 → X.heap[k]? = some o → Y.heap[k]? = some o
theorem Rest0.p {B : Nat} {X Y : World} (h : Rest0 B X Y) : RestP B X Y := ⟨h.1, fun k o h1 _ _ h4 => h.2 k o h1 h4⟩
theorem RestP.refl (B : Nat) (X : World) : RestP B X X := ⟨Nat.le_refl _, fun _ _ _ _ _ h => h⟩
theorem RestP.trans {B : Nat} {X Y Z : World} (h : RestP B X Y) (k : RestP B Y Z) : RestP B X Z := ⟨Nat.le_trans h.1 k.1, fun i o h1 h2 h3 h4 => k.2 i o h1 h2 h3 (h.2 i o h1 h2 h3 h4)⟩
theorem Rest0.trans {B : Nat} {X Y Z : World} (h : Rest0 B X Y) (k : Rest0 B Y Z) : Rest0 B X Z := ⟨Nat.le_trans h.1 k.1, fun i o h1 h4 => k.2 i o h1 (h.2 i o h1 h4)⟩
theorem restP_of_grown {B : Nat} {X Y : World} {row : Option Nat} (h : X.grownBy Y row) (hr : ∀ r, row = some r → r = B + 1 ∨ r = B + 2 ∨ X.heap.size ≤ r ∨ r < B) : RestP B X Y :=
  ⟨h.size, fun k o h1 h2 h3 h4 => (h.block k (Array.getElem?_eq_some_iff.1 h4).1 (fun e => by
    have h5 := (Array.getElem?_eq_some_iff.1 h4).1
    rcases hr k e.symm with h | h | h | h <;> omega)).trans h4⟩
theorem restP_alloc (B : Nat) (X : World) (o : Obj) : RestP B X (X.alloc o) := ⟨by simp, fun k o' _ _ _ h => (Below.heap_alloc _ _ _ (Array.getElem?_eq_some_iff.1 h).1).trans h⟩
theorem restP_below {B : Nat} {X Y : World} (h : Below X.heap.size X Y) : RestP B X Y := ⟨h.size, fun k o _ _ _ h4 => (h.block k (Array.getElem?_eq_some_iff.1 h4).1).trans h4⟩
/-- Between a world and one that came out of it, but for blocks that came later. -/
theorem restP_later {B m : Nat} {X Y Z : World} (h : RestP B X Y) (hm : X.heap.size ≤ m) (hg : ∀ (k : Nat) (o : Obj), k < m → k ≠ B + 1 → k ≠ B + 2 → Y.heap[k]? = some o → Z.heap[k]? = some o) (hs : Y.heap.size ≤ Z.heap.size) : RestP B X Z :=
  ⟨Nat.le_trans h.1 hs, fun k o h1 h2 h3 h4 => hg k o (Nat.lt_of_lt_of_le (Array.getElem?_eq_some_iff.1 h4).1 hm) h2 h3 (h.2 k o h1 h2 h3 h4)⟩
theorem boxed_restP {B k : Nat} {t : TypeId} {v : Value} {X Y : World} (h : Boxed X k t v) (hr : RestP B X Y) (h1 : B ≤ k) (h2 : k ≠ B + 1) (h3 : k ≠ B + 2) : Boxed Y k t v := hr.2 k _ h1 h2 h3 h
theorem keepsFrom_restP {B b : Nat} {X Y : World} (h : RestP B X Y) (hb : B + 3 ≤ b) : KeepsFrom b X Y := ⟨h.1, fun k o h1 h2 _ => h.2 k o (by omega) (by omega) (by omega) h2⟩

/-- An object that a try never turns: cells that are no truth values. -/
def hardO : Obj → Bool
  | .cells _ t _ => decide (t ≠ 4)
  | _ => false
theorem soft_of_not_cells {o : Obj} (h : o.isCells = false) : hardO o = false := by cases o <;> first | rfl | (simp [Obj.isCells] at h)
theorem hard_boxed {X : World} {k : Nat} {t : TypeId} {v : Value} (h : Boxed X k t v) (ht : t ≠ 4) : ∃ o : Obj, X.heap[k]? = some o ∧ hardO o = true := ⟨_, h, decide_eq_true ht⟩
theorem soft_bool {X : World} {k : Nat} {v : Value} (h : Boxed X k 4 v) : ∃ o : Obj, X.heap[k]? = some o ∧ hardO o = false := ⟨_, h, rfl⟩
/-- What lay ahead of B stays; of the rest, but for the list in the making and its box, all cells that are no truth values. -/
def Soft (B : Nat) (X Y : World) : Prop := X.heap.size ≤ Y.heap.size ∧ ∀ (k : Nat) (o : Obj), X.heap[k]? = some o → (k < B ∨ (k ≠ B + 1 ∧ k ≠ B + 2 ∧ hardO o = true)) → Y.heap[k]? = some o
theorem Soft.trans {B : Nat} {X Y Z : World} (h : Soft B X Y) (k : Soft B Y Z) : Soft B X Z := ⟨Nat.le_trans h.1 k.1, fun i o hi hc => k.2 i o (h.2 i o hi hc) hc⟩
theorem Soft.drew {B : Nat} (X : World) : Soft B X X.drew := ⟨Nat.le_refl _, fun _ _ h _ => h⟩
theorem soft_rest {B : Nat} {X Y : World} (h : RestP B X Y) (hb : Below B X Y) : Soft B X Y := ⟨h.1, fun k o hk hc => by
  by_cases h1 : k < B
  · exact (hb.block k h1).trans hk
  · rcases hc with hc | ⟨h2, h3, _⟩
    · exact absurd hc h1
    · exact h.2 k o (by omega) h2 h3 hk⟩
theorem soft_new {B : Nat} {X Y : World} (h : Below X.heap.size X Y) : Soft B X Y := ⟨h.size, fun k o hk _ => (h.block k (Array.getElem?_eq_some_iff.1 hk).1).trans hk⟩
theorem soft_grown {B : Nat} {X Y : World} {row : Option Nat} (h : X.grownBy Y row) (hr : ∀ r, row = some r → B ≤ r ∧ (r = B + 1 ∨ r = B + 2 ∨ ∃ o : Obj, X.heap[r]? = some o ∧ hardO o = false)) : Soft B X Y := ⟨h.size, fun k o hk hc => by
  refine (h.block k (Array.getElem?_eq_some_iff.1 hk).1 (fun e => ?_)).trans hk
  obtain ⟨h1, h2⟩ := hr k e.symm
  rcases hc with hc | ⟨c1, c2, c3⟩
  · omega
  · rcases h2 with h2 | h2 | ⟨o', ho, hh⟩
    · exact c1 h2
    · exact c2 h2
    · rw [hk] at ho; cases ho; rw [c3] at hh; cases hh⟩
/-- The same as a caller of a loop over names sees it: the loop's own two objects lie between. -/
def SoftN (m : Nat) (X Y : World) : Prop := X.heap.size ≤ Y.heap.size ∧ ∀ (k : Nat) (o : Obj), X.heap[k]? = some o → (k < m ∨ (k ≠ m + 3 ∧ k ≠ m + 4 ∧ hardO o = true)) → Y.heap[k]? = some o
theorem softN_of {m : Nat} {X Y : World} (h : Soft (m + 2) X Y) : SoftN m X Y := ⟨h.1, fun k o hk hc => h.2 k o hk (by
  rcases hc with hc | ⟨h1, h2, h3⟩
  · exact .inl (by omega)
  · exact .inr ⟨by omega, by omega, h3⟩)⟩
theorem softN_new {m : Nat} {X Y : World} (h : Below X.heap.size X Y) : SoftN m X Y := ⟨h.size, fun k o hk _ => (h.block k (Array.getElem?_eq_some_iff.1 hk).1).trans hk⟩
theorem softN_put {m r : Nat} {X Y : World} (h : X.grownBy Y (some r)) (hm : m ≤ r) (hr : ∃ o : Obj, X.heap[r]? = some o ∧ hardO o = false) : SoftN m X Y := ⟨h.size, fun k o hk hc => by
  refine (h.block k (Array.getElem?_eq_some_iff.1 hk).1 (fun e => ?_)).trans hk
  injection e with e
  subst e
  obtain ⟨o', ho, hh⟩ := hr
  rcases hc with hc | ⟨_, _, c3⟩
  · omega
  · rw [hk] at ho; cases ho; rw [c3] at hh; cases hh⟩
theorem SoftN.box {m k : Nat} {t : TypeId} {v : Value} {X Y : World} (h : SoftN m X Y) (hb : Boxed X k t v) (hk : k < m ∨ (k ≠ m + 3 ∧ k ≠ m + 4 ∧ t ≠ 4)) : Boxed Y k t v := h.2 k _ hb (by
  rcases hk with hk | ⟨h1, h2, h3⟩
  · exact .inl hk
  · exact .inr ⟨h1, h2, decide_eq_true h3⟩)
theorem SoftN.row {m B : Nat} {v : Value} {xs : List Int} {X Y : World} (h : SoftN m X Y) (hr : Row X B v xs) (hv : ∀ g, v.ownBlock = some g → g < m ∨ (g ≠ m + 3 ∧ g ≠ m + 4)) : Row Y B v xs := by
  obtain ⟨h0, h1⟩ := hr
  refine ⟨h0, ?_⟩
  rcases h1 with h1 | ⟨g, cap, cur, a1, a2, a3, a4⟩
  · exact .inl h1
  · refine .inr ⟨g, cap, cur, a1, a2, h.2 g _ a3 ?_, a4⟩
    rcases hv g (by rw [a1]; rfl) with h2 | ⟨h2, h3⟩
    · exact .inl h2
    · exact .inr ⟨h2, h3, rfl⟩

/-- The last number of a list in the making goes. -/
theorem cut_row {W : World} {B g n : Nat} {xs : List Int} {y : Int} (h : Row W B (.slice (some ⟨g, 0, none⟩) (xs.length + 1) n) (xs ++ [y])) : Row W B (.slice (some ⟨g, 0, none⟩) xs.length n) xs := by
  obtain ⟨h1, h2⟩ := h
  rcases h2 with ⟨h3, _⟩ | ⟨g', cap, cur, h3, h4, h5, h6, h7, h8, h9⟩
  · cases h3
  · injection h3 with e1 e2 e3
    injection e1 with e1
    injection e1 with e1
    subst e1
    subst e3
    refine ⟨by simp, .inr ⟨g, n, cur, rfl, h4, h5, ?_, h7, h8, ?_⟩⟩
    · simp at h6; omega
    · have h10 := congrArg (List.take xs.length) h9
      rw [List.take_take] at h10
      simp at h10
      simpa using h10
/-- All names that fit, in order. -/
def allNames (fit : List (List Nat) → List Nat → Bool) (n : Nat) : List (List Nat) := dfs fit n [] [] (2 ^ n - 1)
end Go.Proofs.YtcemhepojjbcgaaDoor

/- A region that draws its order, inside a round of a range over a function: if all its operations but the last ones leave the world alone, and those last ones come one by one behind all others, then one walk of the text's order serves every order. -/





namespace Go.Proofs.YtcemhepojjbcgaaDoor
open Go
set_option linter.unusedVariables false

section
variable {n rnd : Nat} {P : Program} {ops : Array Oper} {md : Region.Mode} {w : World}

/-- No operation of a list is put off. -/
def noPut : List Oper → Bool
  | [] => true
  | o :: l => (match o.op with | .defer _ => false | _ => true) && noPut l
theorem noPut_spec : ∀ {l : List Oper}, noPut l = true → ∀ (i : Nat) (o : Oper), l[i]? = some o → ∀ c, o.op ≠ .defer c
  | [], _, i, o, h, _ => by simp at h
  | x :: l, hp, i, o, h, c => by
    simp only [noPut, Bool.and_eq_true] at hp
    cases i with
    | zero =>
      simp at h
      subst h
      intro e
      rw [e] at hp
      simp at hp
    | succ i => exact noPut_spec hp.2 i o (by simpa using h) c

theorem wpIn_of_still_round {o : Oper} {a : Act} {K : Act → Prop} {K' : Act → World → Prop} {Q' : Exit → Act → World → Prop} (hd : ∀ c, o.op ≠ .defer c) (h : ∀ a, K a → K' a w) (hh : o.still P a w K) : o.wpIn (Fence.wide.inRound rnd) n P a w K' Q' := by
  unfold Oper.still at hh
  unfold Oper.wpIn
  refine ⟨fun _ _ => trivial, ?_⟩
  rw [Oper.semAt_eq _ _ _ hd]
  generalize (execOp a.eval o).run P w = r at *
  cases r with
  | ok x w' =>
    cases x <;> simp only [Oper.stillUpon] at hh <;> simp only [Oper.uponIn]
    case enter f args =>
      obtain ⟨rfl, v, hc, hn⟩ := hh
      exact ⟨fun e => (by cases e), (CallsIn.inRound rnd (callsIn_wide.2 hc)).mono fun e w'' ⟨he, hw⟩ => by subst he; subst hw; exact h _ hn⟩
    all_goals (obtain ⟨rfl, h2⟩ := hh; exact h _ h2)
  | halt x w' => simp only [Oper.stillUpon] at hh

theorem wpOpIn_of_stOp_round {i : Nat} {a : Act} {K : Act → Prop} {K' : Act → World → Prop} {Q' : Exit → Act → World → Prop} (hd : ∀ (i : Nat) (o : Oper), ops[i]? = some o → ∀ c, o.op ≠ .defer c) (h : ∀ a, K a → K' a w) (hh : stOp P ops w i K a) : wpOpIn (Fence.wide.inRound rnd) n P ops Q' i K' a w := by
  unfold stOp at hh
  unfold wpOpIn
  split
  · rename_i ho; simp only [ho] at hh; exact h _ hh
  · rename_i o ho
    simp only [ho] at hh
    split
    · rename_i hw; simp only [hw, if_true] at hh; exact wpIn_of_still_round (hd i o ho) h hh
    · rename_i hw; simp only [hw] at hh; exact ⟨fun _ _ => trivial, h _ hh⟩

theorem wpAnyIn_of_head {k g : Nat} {L : Array Bool → Act → Prop} {Q' : Exit → Act → World → Prop} (hd : ∀ (i : Nat) (o : Oper), ops[i]? = some o → ∀ c, o.op ≠ .defer c) (hL : ∀ listed a, L listed a → wpAnyIn (Fence.wide.inRound rnd) n P md ops Q' g listed a w) :
    ∀ (f : Nat) (listed : Array Bool) (a : Act), wpAnyL P md ops w k L f listed a → wpAnyIn (Fence.wide.inRound rnd) n P md ops Q' (f + g) listed a w
  | 0, listed, a, h => by rw [Nat.zero_add]; exact hL _ _ h
  | f + 1, listed, a, h => by
    rw [show f + 1 + g = (f + g) + 1 by omega]
    exact ⟨fun h0 => absurd h0 h.1, fun i hi => wpOpIn_of_stOp_round hd (fun a' h' => wpAnyIn_of_head hd hL f _ a' h') (h.2 i hi).2⟩

theorem wpAnyIn_of_seq {F : Fence} {Q' : Exit → Act → World → Prop} : ∀ (l : List Oper) (k : Nat) (listed : Array Bool) (a : Act) (w : World), (∀ j : Nat, l[j]? = ops[k + j]?) →
    Region.seqB md ops l.length k listed = true → wpListIn F n P ops Q' l a w → wpAnyIn F n P md ops Q' l.length listed a w
  | [], _, _, _, _, _, hB, h => ⟨by simpa [Region.seqB] using hB, h⟩
  | o :: l, k, listed, a, w, hl, hB, h => by
    have h0 : ops[k]? = some o := by simpa using (hl 0).symm
    simp only [List.length_cons, Region.seqB, Bool.and_eq_true, decide_eq_true_eq] at hB
    refine ⟨fun h1 => (by rw [hB.1] at h1; cases h1), fun i hi => ?_⟩
    rw [hB.1] at hi
    have hik : i = k := by simpa using hi
    subst hik
    have hw : wpOpIn F n P ops Q' i (wpListIn F n P ops Q' l) a w := by unfold wpOpIn; simp only [h0]; exact h
    exact wpOpIn_mono (fun a' w' h' => wpAnyIn_of_seq l (i + 1) _ a' w' (fun j => by have := hl (j + 1); simpa [Nat.add_assoc, Nat.add_comm 1 j] using this) hB.2 h') hw

/-- **The text's order serves every order, in a round.** -/
theorem wpIn_tail_round {id : Nat} {Q : Exit → Act → World → Prop} {a : Act} {l : List Oper} (k : Nat) (hm : P.follows .mixedOrders = true) (hd : noPut l = true) (hB : Region.lexTailB .any l.toArray k = true)
    (h : wpStill P l.toArray w.drew (fun a' => wpListIn (Fence.wide.inRound rnd) n P l.toArray Q (l.drop k) a' w.drew) (l.take k) a) : (Code.region id l.toArray true).wpIn (Fence.wide.inRound rnd) n P Q a w := by
  simp only [Region.lexTailB, Bool.and_eq_true, decide_eq_true_eq] at hB
  obtain ⟨⟨⟨⟨hsel, hn⟩, hs⟩, hc⟩, hlex⟩ := hB
  have hn' : k < l.length := by simpa using hn
  have htl : (l.take k).length = k := by simp; omega
  have hdl : (l.drop k).length = l.toArray.size - k := by simp
  have inv0 : HeadInv .any l.toArray k (Array.replicate l.toArray.size false) :=
    ⟨by simp, fun j oj _ hl => (by rw [getD_replicate_false] at hl; cases hl), fun t _ ht => getD_in (by simpa using ht) (getD_replicate_false _ _)⟩
  have hd' : ∀ (i : Nat) (o : Oper), l.toArray[i]? = some o → ∀ c, o.op ≠ .defer c := fun i o ho => noPut_spec hd i o (by simpa using ho)
  have H := wpAnyL_lex (md := .any) (g := l.toArray.size - k) hsel hs hc hn (l.take k) 0 _ a (fun j hj => by
    have hj' : j < k := by rw [htl] at hj; exact hj
    simp [hj']) (by simpa using htl) inv0 (by rw [htl]; exact hlex) h
  refine wpIn_region_any hm ?_
  have := wpAnyIn_of_head (rnd := rnd) (n := n) (Q' := Q) (g := l.toArray.size - k) hd' (fun listed a' hL => by
    have := wpAnyIn_of_seq (F := Fence.wide.inRound rnd) (n := n) (P := P) (md := .any) (Q' := Q) (l.drop k) k listed a' w.drew (fun j => by simp [List.getElem?_drop]) (by rw [hdl]; exact hL.1) hL.2
    rwa [hdl] at this) _ _ _ H
  rw [htl, show k + (l.toArray.size - k) = l.toArray.size by omega] at this
  exact this
end
end Go.Proofs.YtcemhepojjbcgaaDoor

/- A region that draws its order, inside a round, with a guard in its midst ('f(p) && !g(x)'): two loads, a forced part with the first call, some operations that leave the world alone, a forced end with the second call: one walk serves every order. -/

namespace Go.Proofs.YtcemhepojjbcgaaDoor
open Go
set_option linter.unusedVariables false

section
variable {n rnd : Nat} {P : Program} {ops : Array Oper} {md : Region.Mode} {w : World}

def setFrom (listed : Array Bool) (k : Nat) : Nat → Array Bool
  | 0 => listed
  | m + 1 => setFrom (listed.setIfInBounds k true) (k + 1) m
/-- Each of some operations comes up alone, one behind the other. -/
def segB (md : Region.Mode) (ops : Array Oper) (listed : Array Bool) (k : Nat) : Nat → Bool
  | 0 => true
  | m + 1 => decide (Region.ready md ops listed = [k]) && segB md ops (listed.setIfInBounds k true) (k + 1) m

theorem wpAnyIn_seg {F : Fence} {Q : Exit → Act → World → Prop} {g : Nat} : ∀ (l : List Oper) (k : Nat) (listed : Array Bool) (a : Act) (w : World), (∀ j : Nat, j < l.length → l[j]? = ops[k + j]?) →
    segB md ops listed k l.length = true → wpListIn F n P ops (Exit.then (fun a w => wpAnyIn F n P md ops Q g (setFrom listed k l.length) a w) Q) l a w → wpAnyIn F n P md ops Q (g + l.length) listed a w
  | [], _, _, _, _, _, _, h => h
  | o :: l, k, listed, a, w, hl, hB, h => by
    have h0 : ops[k]? = some o := by simpa using (hl 0 (by simp)).symm
    simp only [List.length_cons, segB, Bool.and_eq_true, decide_eq_true_eq] at hB
    refine ⟨fun h1 => (by rw [hB.1] at h1; cases h1), fun i hi => ?_⟩
    rw [hB.1] at hi
    have hik : i = k := by simpa using hi
    subst hik
    have hw : wpOpIn F n P ops Q i (wpListIn F n P ops (Exit.then (fun a w => wpAnyIn F n P md ops Q g (setFrom (listed.setIfInBounds i true) (i + 1) l.length) a w) Q) l) a w := by
      unfold wpOpIn; simp only [h0]; exact h
    exact wpOpIn_mono (fun a' w' h' => wpAnyIn_seg l (i + 1) _ a' w' (fun j hj => by have := hl (j + 1) (by simp; omega); simpa [Nat.add_assoc, Nat.add_comm 1 j] using this) hB.2 h') hw

theorem wpListIn_mono2 {F : Fence} {Q : Exit → Act → World → Prop} {K K' : Act → World → Prop} (hK : ∀ a w, K a w → K' a w) : ∀ {l : List Oper} {a : Act} {w : World}, wpListIn F n P ops (Exit.then K Q) l a w → wpListIn F n P ops (Exit.then K' Q) l a w
  | [], a, w, h => hK a w h
  | o :: l, a, w, h => by
    unfold wpListIn at h ⊢
    split
    · rename_i hw
      rw [if_pos hw] at h
      exact Oper.wpIn_mono (Q := Exit.then K' Q) (fun a w h => wpListIn_mono2 hK h) h
    · rename_i hw
      rw [if_neg hw] at h
      exact ⟨h.1, wpListIn_mono2 hK h.2⟩

/-- Two operations that leave the world alone come up in one order or the other. -/
theorem wpAnyIn_two {o p : Oper} {i j fuel : Nat} {listed : Array Bool} {a : Act} {K : Act → Prop} {Q : Exit → Act → World → Prop} (hd : ∀ (i : Nat) (o : Oper), ops[i]? = some o → ∀ c, o.op ≠ .defer c) (hij : i ≠ j)
    (ho : ops[i]? = some o) (hp : ops[j]? = some p) (hap : o.apart ops p = true) (hs : ∀ cs b, o.op ≠ .select cs b) (hs' : ∀ cs b, p.op ≠ .select cs b)
    (h0 : Region.ready md ops listed = [i, j]) (h1 : Region.ready md ops (listed.setIfInBounds i true) = [j]) (h2 : Region.ready md ops (listed.setIfInBounds j true) = [i])
    (hK : ∀ a', K a' → wpAnyIn (Fence.wide.inRound rnd) n P md ops Q fuel ((listed.setIfInBounds i true).setIfInBounds j true) a' w) (h : stOp P ops w i (stOp P ops w j K) a) :
    wpAnyIn (Fence.wide.inRound rnd) n P md ops Q (fuel + 1 + 1) listed a w := by
  refine ⟨fun e => (by rw [h0] at e; cases e), fun x hx => ?_⟩
  rw [h0] at hx
  rcases List.mem_cons.1 hx with rfl | hx
  · refine wpOpIn_of_stOp_round hd (fun a' h' => ?_) h
    refine ⟨fun e => (by rw [h1] at e; cases e), fun y hy => ?_⟩
    rw [h1] at hy
    obtain rfl : y = j := by simpa using hy
    exact wpOpIn_of_stOp_round hd hK h'
  · obtain rfl : x = j := by simpa using hx
    obtain ⟨v, hy, hn⟩ := yieldsAt_of_stOp ho h
    have h4 := stOp_put hp hap hs hs' hy hn
    refine wpOpIn_of_stOp_round hd (fun a' h' => ?_) h4
    refine ⟨fun e => (by rw [h2] at e; cases e), fun y hy2 => ?_⟩
    rw [h2] at hy2
    obtain rfl : y = i := by simpa using hy2
    refine wpOpIn_of_stOp_round hd (fun a'' h'' => ?_) (h'.1.stOp ho h'.2)
    rw [Array.setIfInBounds_comm _ _ (Ne.symm hij)]
    exact hK _ h''

/-- What is checked of the region: by reckoning. -/
def guardedB (l : List Oper) (m : Nat) : Bool :=
  Region.noSelect l.toArray && noPut l && decide (4 + m < l.length) && decide (Region.ready .any l.toArray (Array.replicate l.toArray.size false) = [0, 1]) &&
  decide (Region.ready .any l.toArray ((Array.replicate l.toArray.size false).setIfInBounds 0 true) = [1]) && decide (Region.ready .any l.toArray ((Array.replicate l.toArray.size false).setIfInBounds 1 true) = [0]) &&
  segB .any l.toArray (setFrom (Array.replicate l.toArray.size false) 0 2) 2 2 &&
  (match l[0]?, l[1]? with | some o, some p => o.apart l.toArray p | _, _ => false) &&
  Region.sinkB .any l.toArray (4 + m) && Region.chainB .any l.toArray (4 + m) && Region.lexHead .any l.toArray (l.toArray.size - (4 + m)) m 4 (setFrom (Array.replicate l.toArray.size false) 0 4)

theorem wpIn_guarded_round {id : Nat} {Q : Exit → Act → World → Prop} {a : Act} {l : List Oper} (m : Nat) (hm : P.follows .mixedOrders = true) (hB : guardedB l m = true)
    (h : wpStill P l.toArray w.drew (fun a' => wpListIn (Fence.wide.inRound rnd) n P l.toArray (Exit.then (fun a w => wpStill P l.toArray w (fun a' => wpListIn (Fence.wide.inRound rnd) n P l.toArray Q (l.drop (4 + m)) a' w) ((l.drop 4).take m) a) Q) ((l.drop 2).take 2) a' w.drew) (l.take 2) a) :
    (Code.region id l.toArray true).wpIn (Fence.wide.inRound rnd) n P Q a w := by
  simp only [guardedB, Bool.and_eq_true, decide_eq_true_eq] at hB
  obtain ⟨⟨⟨⟨⟨⟨⟨⟨⟨⟨hsel, hput⟩, hlen⟩, r0⟩, r1⟩, r2⟩, hseg⟩, hap⟩, hs⟩, hc⟩, hlex⟩ := hB
  have hd' : ∀ (i : Nat) (o : Oper), l.toArray[i]? = some o → ∀ c, o.op ≠ .defer c := fun i o ho => noPut_spec hput i o (by simpa using ho)
  have hsz : l.toArray.size = l.length := by simp
  have e0 : l[0]? = some (l[0]'(by omega)) := List.getElem?_eq_getElem (by omega)
  have e1 : l[1]? = some (l[1]'(by omega)) := List.getElem?_eq_getElem (by omega)
  rw [e0, e1] at hap
  have inv0 : HeadInv .any l.toArray (4 + m) (Array.replicate l.toArray.size false) :=
    ⟨by simp, fun j oj _ hl => (by rw [getD_replicate_false] at hl; cases hl), fun t _ ht => getD_in (by simpa using ht) (getD_replicate_false _ _)⟩
  have hdr : (l.drop (4 + m)).length = l.toArray.size - (4 + m) := by simp
  refine wpIn_region_any hm ?_
  change wpAnyIn _ _ _ _ _ _ _ _ _ w.drew
  have f0 : l.toArray.size = ((m + (l.drop (4 + m)).length) + 2) + 1 + 1 := by rw [hdr]; omega
  obtain ⟨A, hA⟩ : ∃ A, A = Array.replicate l.toArray.size false := ⟨_, rfl⟩
  rw [← hA] at r0 r1 r2 hseg hlex inv0 ⊢
  obtain ⟨N, hN⟩ : ∃ N, N = l.toArray.size := ⟨_, rfl⟩
  rw [← hN] at f0 ⊢
  subst f0
  have hl2 : l.take 2 = [l[0]'(by omega), l[1]'(by omega)] := by
    refine List.ext_getElem? fun j => ?_
    rcases j with _ | _ | j
    · simp [e0]
    · simp [e1]
    · simp; omega
  rw [hl2] at h
  refine wpAnyIn_two (w := w.drew) (K := fun a' => wpListIn (Fence.wide.inRound rnd) n P l.toArray (Exit.then (fun a w => wpStill P l.toArray w (fun a' => wpListIn (Fence.wide.inRound rnd) n P l.toArray Q (l.drop (4 + m)) a' w) ((l.drop 4).take m) a) Q) ((l.drop 2).take 2) a' w.drew)
    hd' (show (0 : Nat) ≠ 1 by decide) (by simp) (by simp) hap (fun cs b => Region.noSelect_spec hsel 0 _ cs b (by simp)) (fun cs b => Region.noSelect_spec hsel 1 _ cs b (by simp)) r0 r1 r2 ?_ ?_
  · intro a' h'
    have hl22 : ((l.drop 2).take 2).length = 2 := by simp; omega
    have hw := wpAnyIn_seg (F := Fence.wide.inRound rnd) (n := n) (P := P) (ops := l.toArray) (md := .any) (Q := Q) (g := m + (l.drop (4 + m)).length) ((l.drop 2).take 2) 2 ((A.setIfInBounds 0 true).setIfInBounds 1 true) a' w.drew (fun j hj => by
      rw [hl22] at hj
      rw [List.getElem?_take_of_lt (by omega)]
      simp) (by rw [hl22]; exact hseg) (wpListIn_mono2 (fun a2 w2 h2 => ?_) h')
    · rw [hl22] at hw; exact hw
    · rw [hl22]
      have c0 : 0 ∈ Region.ready .any l.toArray A := by rw [r0]; simp
      have c1 : 1 ∈ Region.ready .any l.toArray (A.setIfInBounds 0 true) := by rw [r1]; simp
      simp only [segB, Bool.and_eq_true, decide_eq_true_eq] at hseg
      have c2 : 2 ∈ Region.ready .any l.toArray (setFrom A 0 2) := by rw [hseg.1]; simp
      have c3 : 3 ∈ Region.ready .any l.toArray ((setFrom A 0 2).setIfInBounds 2 true) := by rw [hseg.2.1]; simp
      have inv4 := (((inv0.set c0 (by omega)).set c1 (by omega)).set c2 (by omega)).set c3 (by omega)
      have htk : ((l.drop 4).take m).length = m := by simp; omega
      have H := wpAnyL_lex (md := .any) (g := (l.drop (4 + m)).length) hsel hs hc (by rw [hsz]; exact hlen) ((l.drop 4).take m) 4 _ a2 (fun j hj => by
        rw [htk] at hj
        rw [List.getElem?_take_of_lt hj]
        simp) (by rw [htk]) inv4 (by rw [htk, hdr]; exact hlex) h2
      have := wpAnyIn_of_head (rnd := rnd) (n := n) (Q' := Q) (g := (l.drop (4 + m)).length) hd' (fun listed a' hL => wpAnyIn_of_seq (F := Fence.wide.inRound rnd) (n := n) (P := P) (md := .any) (Q' := Q) (l.drop (4 + m)) (4 + m) listed a' w2 (fun j => by simp [List.getElem?_drop]) hL.1 hL.2) _ _ _ H
      rw [htk] at this
      exact this
  · have g0 : l.toArray[0]? = some (l[0]'(by omega)) := by simp
    have g1 : l.toArray[1]? = some (l[1]'(by omega)) := by simp
    unfold stOp
    simp only [g0, g1]
    exact h
/-- The same, what comes behind each part under a letter. -/
theorem wpIn_guarded {id : Nat} {Q : Exit → Act → World → Prop} {a : Act} {l : List Oper} (m : Nat) (hm : P.follows .mixedOrders = true) (hB : guardedB l m = true)
    (h : ∀ K1 : Act → Prop, (∀ a', (∀ K2 : Act → World → Prop, (∀ a w, (∀ K3 : Act → Prop, (∀ a', wpListIn (Fence.wide.inRound rnd) n P l.toArray Q (l.drop (4 + m)) a' w → K3 a') → wpStill P l.toArray w K3 ((l.drop 4).take m) a) → K2 a w) →
      wpListIn (Fence.wide.inRound rnd) n P l.toArray (Exit.then K2 Q) ((l.drop 2).take 2) a' w.drew) → K1 a') → wpStill P l.toArray w.drew K1 (l.take 2) a) :
    (Code.region id l.toArray true).wpIn (Fence.wide.inRound rnd) n P Q a w :=
  wpIn_guarded_round m hm hB (h _ (fun a' h1 => h1 _ (fun a w h2 => h2 _ (fun a' h3 => h3))))
end
end Go.Proofs.YtcemhepojjbcgaaDoor

/- The recurring closure of namings: it goes through all names that begin with what is there, and leaves off where a round says so. -/






namespace Go.Proofs.YtcemhepojjbcgaaDoor
open Go.RowKit Go.Shelf
attribute [local go_sem] Oper.semAt_some
set_option linter.unusedVariables false

/-- The iterator's own state: the yield's box, the list in the making and its box, the closure's box. -/
def St (B l n fx : Nat) (P : List Nat) (W : World) : Prop :=
  Boxed W B 38 (.func (.yield l) #[] #[]) ∧ Boxed W (B + 2) 23 (.slice (some ⟨B + 1, 0, none⟩) P.length n) ∧ Row W B (.slice (some ⟨B + 1, 0, none⟩) P.length n) (ints P) ∧
  Boxed W (B + 3) 88 (.func (.func 131) #[] #[.pointer (some ⟨B, 0, none⟩), .pointer (some ⟨B + 2, 0, none⟩), .pointer (some ⟨fx, 0, none⟩), .pointer (some ⟨B + 3, 0, none⟩)])
theorem St.grown {B l n fx : Nat} {P : List Nat} {X Y : World} {row : Option Nat} (h : St B l n fx P X) (hg : X.grownBy Y row) (hr : ∀ r, row = some r → B + 4 ≤ r) : St B l n fx P Y :=
  ⟨h.1.kept hg (fun e => by have := hr _ e.symm; omega), h.2.1.kept hg (fun e => by have := hr _ e.symm; omega),
    World.ownsRow.kept h.2.2.1 hg (.inr (fun e => by have e2 : some (B + 1) = row := e; have := hr _ e2.symm; omega)), h.2.2.2.kept hg (fun e => by have := hr _ e.symm; omega)⟩
theorem St.alloc {B l n fx : Nat} {P : List Nat} {X : World} (h : St B l n fx P X) (o : Obj) : St B l n fx P (X.alloc o) := h.grown (World.grownBy_alloc X o none) (fun _ e => by cases e)
theorem St.drew {B l n fx : Nat} {P : List Nat} {X : World} (h : St B l n fx P X) : St B l n fx P X.drew := h

/-- What the caller of the names owes, and what it is told. -/
structure Owes (B l n fx fid : Nat) (fcap : Array Value) (fit : List (List Nat) → List Nat → Bool) (J Jx : List (List Nat) → World → Prop) : Prop where
  far : ∀ s X Y, J s X → Below B X Y → Soft B X Y → J s Y
  farx : ∀ s X Y row, Jx s X → X.grownBy Y row → (∀ r, row = some r → B ≤ r ∧ ((∃ o : Obj, X.heap[r]? = some o ∧ o.isCells = false) ∨ ∃ v, Boxed X r 4 v)) → Jx s Y
  box : ∀ s X, J s X → Boxed X fx 38 (.func (.func fid) #[] fcap)
  tab : ∀ s X, J s X → Tab X
  enters : ∀ args w, (callFunc fid args).run Tryd.prog w = .ok (.enter fid args) w
  asks : ∀ acc P v W, J acc W → Row W B v (ints P) → 1 ≤ P.length → P.length ≤ n → (∀ x ∈ P, x < n) → Calls Tryd.prog fid (#[v] ++ fcap) W fun e W' => e = .returned (.bool (fit acc P)) ∧ Below W.heap.size W W'
  yields : ∀ acc P v W, B + 4 ≤ W.heap.size → J acc W → Row W B v (ints P) → P.length = n → (∀ x ∈ P, x < n) → YieldAt Fence.wide 8 Tryd.prog l #[v] W fun e W' =>
    (e = .returned (.bool true) ∧ J (acc ++ [P]) W' ∧ Rest0 B W W' ∧ Below 2 W W') ∨ (e = .returned (.bool false) ∧ Jx (acc ++ [P]) W' ∧ Rest0 B W W')

/-- How a try ends. -/
def Tried (B l n fx : Nat) (P : List Nat) (all : List (List Nat)) (J Jx : List (List Nat) → World → Prop) (W : World) (e : Ending) (W' : World) : Prop :=
  (e = .returned (.bool true) ∧ J all W' ∧ St B l n fx P W' ∧ RestP B W W' ∧ Below 2 W W') ∨ (e = .returned (.bool false) ∧ (∃ xs, Jx xs W' ∧ xs <+: all) ∧ RestP B W W')

theorem rest0_alloc (B : Nat) (X : World) (o : Obj) : Rest0 B X (X.alloc o) := ⟨by simp, fun k o' _ h => (Below.heap_alloc _ _ _ (Array.getElem?_eq_some_iff.1 h).1).trans h⟩
theorem st_rest0 {B l n fx : Nat} {P : List Nat} {X Y : World} (h : St B l n fx P X) (hr : Rest0 B X Y) : St B l n fx P Y := by
  obtain ⟨h1, h2, h3, h4⟩ := h
  refine ⟨hr.2 _ _ (Nat.le_refl _) h1, hr.2 _ _ (by omega) h2, ?_, hr.2 _ _ (by omega) h4⟩
  obtain ⟨a, b⟩ := h3
  refine ⟨a, ?_⟩
  rcases b with b | ⟨g, cap, cur, b1, b2, b3, b4⟩
  · exact .inl b
  · exact .inr ⟨g, cap, cur, b1, b2, hr.2 _ _ b2 b3, b4⟩
/-- A variable of the call's own is set, and that is all. -/
theorem restP_set {B b : Nat} {X Y : World} {v : Value} (h : RestP B X Y) (hb : X.heap.size ≤ b) : RestP B X (Y.setCell ⟨b, 0, none⟩ v) :=
  restP_later h (Nat.le_refl _) (fun k o hk _ _ h4 => (Below.heap_setCell _ _ _ k (fun e => by dsimp only at e; omega)).trans h4) (grownBy_setCell' Y b v).size

set_option maxRecDepth 100000 in
set_option maxHeartbeats 4000000 in
theorem try_zero {B l n fx fid : Nat} {fcap : Array Value} {fit : List (List Nat) → List Nat → Bool} {J Jx : List (List Nat) → World → Prop} (hB2 : 2 ≤ B) (hO : Owes B l n fx fid fcap fit J Jx)
    (acc : List (List Nat)) (P : List Nat) (W : World) (hBW : B + 4 ≤ W.heap.size) (hj : J acc W) (hst : St B l n fx P W) (hPn : P.length = n) (hPl : ∀ x ∈ P, x < n) :
    CallsIn Fence.wide 9 Tryd.prog 131 #[.int .i64 0, .pointer (some ⟨B, 0, none⟩), .pointer (some ⟨B + 2, 0, none⟩), .pointer (some ⟨fx, 0, none⟩), .pointer (some ⟨B + 3, 0, none⟩)] W
      (Tried B l n fx P (acc ++ [P]) J Jx W) := by
  obtain ⟨W2, eW2⟩ : ∃ W2, W2 = (W.alloc (.cells #[.int .i64 0] 3)).alloc (.cells #[.bool false] 4) := ⟨_, rfl⟩
  have hBB : Below B W W2 := by rw [eW2]; exact ((Below.refl B W).alloc (by omega) _).alloc (by simp <;> omega) _
  have hR0 : Rest0 B W W2 := by rw [eW2]; exact (rest0_alloc B W _).trans (rest0_alloc B _ _)
  have hb2 : Below 2 W W2 := by rw [eW2]; exact ((Below.refl 2 W).alloc (by omega) _).alloc (by simp <;> omega) _
  have hst2 := st_rest0 hst hR0
  have hrb : Boxed W2 (W.heap.size + 1) 4 (.bool false) := by
    rw [eW2]; have h := Boxed.new (W.alloc (.cells #[.int .i64 0] 3)) 4 (.bool false); rw [World.size_alloc] at h; exact h
  have hj2 := hO.far _ _ _ hj hBB (soft_rest hR0.p hBB)
  obtain ⟨fn, tmps, assign, body, hy, hR⟩ := hO.yields acc P (.slice (some ⟨B + 1, 0, none⟩) P.length n) W2 (Nat.le_trans hBW hR0.1) hj2 hst2.2.2.1 hPn hPl
  have y0 := hst2.1.cell
  have y2 := hst2.2.1.cell
  have HST := Lib.hid hst2
  have HO := Lib.hid hO
  obtain ⟨d, ed⟩ : ∃ d, d = P.length := ⟨_, rfl⟩
  rw [← ed] at y2 hy
  have HR := Lib.hid hR
  have hr1 := hrb.cell
  have x0 : ((W.alloc (.cells #[.int .i64 0] 3)).alloc (.cells #[.bool false] 4)).cell? ⟨B, 0, none⟩ = some (.func (.yield l) #[] #[]) := by rw [← eW2]; exact y0
  have x2 : ((W.alloc (.cells #[.int .i64 0] 3)).alloc (.cells #[.bool false] 4)).cell? ⟨B + 2, 0, none⟩ = some (.slice (some ⟨B + 1, 0, none⟩) d n) := by rw [← eW2]; exact y2
  rw [eW2] at hy
  have EW2 := Lib.hid eW2
  have RB := Lib.hid hrb
  have R0 := Lib.hid hR0
  clear hj2 hO hst hst2 hR hPn hPl ed y0 y2 eW2 hrb hr1
  refine callsIn_of_wp_marks Tryd.func131 rfl trivial ?_ rfl
  simp only [Tryd.ntmps131, List.size_toArray, List.length_cons, List.length_nil, Nat.reduceAdd, Nat.reduceSub, Array.replicate_succ, Array.replicate_zero, List.push_toArray, List.append_toArray, List.nil_append, List.cons_append]
  gi_wp2
  rw [← EW2.out]
  refine HR.out.mono ?_
  rintro e W3 (⟨rfl, j1, j2, j3⟩ | ⟨rfl, j1, j2⟩)
  · have r3 := j2.2 _ _ (by omega) RB.out
    have r3b : Boxed W3 (W.heap.size + 1) 4 (.bool false) := r3
    have z1 := r3b.cell
    have z2 := r3b.frozen
    have RB3 := Lib.hid r3b
    clear r3
    gi_wp2
    have zc := (r3b.set (.bool true)).cell
    refine ⟨.bool true, by simp [results, Tryd.f131, go_sem, zc], .inl ⟨rfl, ?_, ?_, ?_, ?_⟩⟩
    · exact HO.out.far _ W3 _ j1 ((Below.refl B W3).setCell (p := ⟨W.heap.size + 1, 0, none⟩) (by show B ≤ W.heap.size + 1; omega) _) (soft_grown (grownBy_setCell' W3 _ _) (fun r e => by cases e; exact ⟨by omega, .inr (.inr (soft_bool RB3.out))⟩))
    · exact (st_rest0 HST.out j2).grown (grownBy_setCell' W3 _ _) (fun r e => by cases e; omega)
    · exact restP_set (R0.out.trans j2).p (by omega)
    · exact (hb2.trans j3).setCell (p := ⟨W.heap.size + 1, 0, none⟩) (by show 2 ≤ W.heap.size + 1; omega) _
  · have r3 := j2.2 _ _ (by omega) RB.out
    have r3b : Boxed W3 (W.heap.size + 1) 4 (.bool false) := r3
    have z1 := r3b.cell
    have z2 := r3b.frozen
    clear r3
    gi_wp2
    have zc := (r3b.set (.bool false)).cell
    refine ⟨.bool false, by simp [results, Tryd.f131, go_sem, zc], .inr ⟨rfl, ⟨acc ++ [P], ?_, List.prefix_refl _⟩, ?_⟩⟩
    · exact HO.out.farx _ W3 _ _ j1 (grownBy_setCell' W3 _ _) (fun r e => by cases e; exact ⟨by omega, .inr ⟨_, r3b⟩⟩)
    · exact restP_set (R0.out.trans j2).p (by omega)
end Go.Proofs.YtcemhepojjbcgaaDoor

/- The recurring closure of namings, at each number of nodes left. -/

namespace Go.Proofs.YtcemhepojjbcgaaDoor
open Go.RowKit Go.Shelf
attribute [local go_sem] Oper.semAt_some
set_option linter.unusedVariables false

theorem fitsIn_one {F : Fence} {n : Nat} {ops : Array Oper} {rest : List Oper} {o : Oper} {a : Act} {Q : Exit → Act → World → Prop} (hgd : o.guard = none) (s x : Operand)
    (ho : o.op = .call { callee := .builtin .append, args := #[s, x], argTypes := #[23, 23] }) (w : World) (B g cap d : Nat) (xs : List Int) (y : Int) (hd : xs.length = d)
    (hs : a.eval s = .slice (some ⟨g, 0, none⟩) d cap) (hx : a.eval x = .slice (some ⟨w.heap.size, 0, none⟩) 1 1) (hr : Row w B (.slice (some ⟨g, 0, none⟩) d cap) xs) (hlen : d + 1 ≤ cap)
    (h : ∀ w', Row w' B (.slice (some ⟨g, 0, none⟩) (d + 1) cap) (xs ++ [y]) → (w.alloc (.cells #[.int .i64 y] 3)).grownBy w' (some g) → wpListIn F n Tryd.prog ops Q rest (a.put o.dst (.slice (some ⟨g, 0, none⟩) (d + 1) cap)) w') :
    wpListIn F n Tryd.prog ops Q (o :: rest) a (w.alloc (.cells #[.int .i64 y] 3)) := by
  subst hd
  obtain ⟨i0, hi, hz0, hz1, hz2⟩ := info_parts infoInt
  refine wpListIn_append_fits (w.alloc (.cells #[.int .i64 y] 3)) hgd s x 23 ho B 3 i0 1 Tryd.underlying23 hi hz1 g xs.length cap (xs.map (Value.int .i64)) hs (World.ownsRow.alloc hr _)
    ⟨w.heap.size, 0, none⟩ 1 1 [.int .i64 y] hx rfl (cell_one_new w _ _) (by simp [Value.oneCell']) hlen ?_
  intro w' hown hg
  refine h w' ?_ hg
  unfold Row
  rw [List.length_append, List.map_append]
  exact hown

/-- What the rounds carry. -/
def TI (B l n fx k s m0 : Nat) (fit : List (List Nat) → List Nat → Bool) (J : List (List Nat) → World → Prop) (acc : List (List Nat)) (P : List Nat) (W : World) (pre : List (Nd n s)) (Z : World) : Prop :=
  J (runF fit k P s acc (valsN pre)) Z ∧ St B l n fx P Z ∧ Boxed Z m0 3 (.int .i64 s) ∧ Boxed Z (m0 + 1) 4 (.bool false) ∧ RestP B W Z ∧ Below 2 W Z
def TX (B n k s m0 : Nat) (fit : List (List Nat) → List Nat → Bool) (Jx : List (List Nat) → World → Prop) (acc : List (List Nat)) (P : List Nat) (W : World) (cd : Code) (pre : List (Nd n s)) (Z : World) : Prop :=
  cd = .ret ∧ (∃ xs, Jx xs Z ∧ xs <+: runF fit k P s acc (valsN pre)) ∧ Boxed Z (m0 + 1) 4 (.bool false) ∧ RestP B W Z

/-- The end of a round: the last name goes. -/
theorem shut_round {B l n fx m0 b s v d : Nat} {J : List (List Nat) → World → Prop} {acc : List (List Nat)} {P : List Nat} {W Z Y : World} (hB2 : 2 ≤ B) (hm : B + 4 ≤ m0) (hb : B + 3 ≤ b) (hd : d = P.length)
    (hfar : ∀ s X Y, J s X → Below B X Y → Soft B X Y → J s Y) (hj : J acc Y) (hst : St B l n fx (P ++ [v]) Y) (h3 : Boxed Y m0 3 (.int .i64 s)) (h4 : Boxed Y (m0 + 1) 4 (.bool false)) (h5 : RestP B W Y) (h6 : Below 2 W Y) (h7 : RestP B Z Y) (h8 : Below 2 Z Y) :
    KeepsFrom b Z (Y.setCell ⟨B + 2, 0, none⟩ (.slice (some ⟨B + 1, 0, none⟩) d n)) ∧ Below 2 Z (Y.setCell ⟨B + 2, 0, none⟩ (.slice (some ⟨B + 1, 0, none⟩) d n)) ∧
    (J acc (Y.setCell ⟨B + 2, 0, none⟩ (.slice (some ⟨B + 1, 0, none⟩) d n)) ∧ St B l n fx P (Y.setCell ⟨B + 2, 0, none⟩ (.slice (some ⟨B + 1, 0, none⟩) d n)) ∧ Boxed (Y.setCell ⟨B + 2, 0, none⟩ (.slice (some ⟨B + 1, 0, none⟩) d n)) m0 3 (.int .i64 s) ∧
      Boxed (Y.setCell ⟨B + 2, 0, none⟩ (.slice (some ⟨B + 1, 0, none⟩) d n)) (m0 + 1) 4 (.bool false) ∧ RestP B W (Y.setCell ⟨B + 2, 0, none⟩ (.slice (some ⟨B + 1, 0, none⟩) d n)) ∧ Below 2 W (Y.setCell ⟨B + 2, 0, none⟩ (.slice (some ⟨B + 1, 0, none⟩) d n))) := by
  subst hd
  have g := grownBy_setCell' Y (B + 2) (.slice (some ⟨B + 1, 0, none⟩) P.length n)
  have r : RestP B Y (Y.setCell ⟨B + 2, 0, none⟩ (.slice (some ⟨B + 1, 0, none⟩) P.length n)) := restP_of_grown g (fun r e => by cases e; exact .inr (.inl rfl))
  have b0 : Below B Y (Y.setCell ⟨B + 2, 0, none⟩ (.slice (some ⟨B + 1, 0, none⟩) P.length n)) := (Below.refl B Y).setCell (p := ⟨B + 2, 0, none⟩) (by show B ≤ B + 2; omega) _
  have b2 : Below 2 Y (Y.setCell ⟨B + 2, 0, none⟩ (.slice (some ⟨B + 1, 0, none⟩) P.length n)) := (Below.refl 2 Y).setCell (p := ⟨B + 2, 0, none⟩) (by show 2 ≤ B + 2; omega) _
  refine ⟨keepsFrom_restP (h7.trans r) hb, h8.trans b2, hfar _ _ _ hj b0 (soft_rest r b0), ⟨boxed_restP hst.1 r (Nat.le_refl _) (by omega) (by omega), ?_, ?_, boxed_restP hst.2.2.2 r (by omega) (by omega) (by omega)⟩,
    boxed_restP h3 r (by omega) (by omega) (by omega), boxed_restP h4 r (by omega) (by omega) (by omega), h5.trans r, h6.trans b2⟩
  · exact hst.2.1.set _
  · have h9 := hst.2.2.1
    rw [show ints (P ++ [v]) = ints P ++ [(v : Int)] by simp [ints], List.length_append] at h9
    have h10 := cut_row (xs := ints P) (y := (v : Int)) (by rw [ints_length]; exact h9)
    rw [ints_length] at h10
    exact World.ownsRow.kept h10 g (.inr (fun e => by have e2 : some (B + 1) = some (B + 2) := e; injection e2; omega))

set_option maxRecDepth 100000 in
set_option maxHeartbeats 8000000 in
theorem try_succ {B l n fx fid : Nat} {fcap : Array Value} {fit : List (List Nat) → List Nat → Bool} {J Jx : List (List Nat) → World → Prop} (hn : n ≤ 6) (hB2 : 2 ≤ B) (hfx : fx < B) (hO : Owes B l n fx fid fcap fit J Jx) (k : Nat)
    (ih : ∀ (acc : List (List Nat)) (P : List Nat) (s : Nat) (W : World), s < 2 ^ n → (nodesL s).length = k → P.length + k = n → (∀ x ∈ P, x < n) → B + 4 ≤ W.heap.size → J acc W → St B l n fx P W →
      CallsIn Fence.wide 9 Tryd.prog 131 #[.int .i64 s, .pointer (some ⟨B, 0, none⟩), .pointer (some ⟨B + 2, 0, none⟩), .pointer (some ⟨fx, 0, none⟩), .pointer (some ⟨B + 3, 0, none⟩)] W (Tried B l n fx P (dfs fit k acc P s) J Jx W))
    (acc : List (List Nat)) (P : List Nat) (s : Nat) (W : World) (hs : s < 2 ^ n) (hk : (nodesL s).length = k + 1) (hPn : P.length + (k + 1) = n) (hPl : ∀ x ∈ P, x < n) (hBW : B + 4 ≤ W.heap.size) (hj : J acc W) (hst : St B l n fx P W) :
    CallsIn Fence.wide 9 Tryd.prog 131 #[.int .i64 s, .pointer (some ⟨B, 0, none⟩), .pointer (some ⟨B + 2, 0, none⟩), .pointer (some ⟨fx, 0, none⟩), .pointer (some ⟨B + 3, 0, none⟩)] W (Tried B l n fx P (dfs fit (k + 1) acc P s) J Jx W) := by
  obtain ⟨m0, em0⟩ : ∃ m0, m0 = W.heap.size := ⟨_, rfl⟩
  have hs0 : s ≠ 0 := fun e => by rw [e, nodes_zero] at hk; simp at hk
  have he0 : ((s : Int) == 0) = false := by simpa using hs0
  obtain ⟨W3, eW3⟩ : ∃ W3, W3 = ((W.alloc (.cells #[.int .i64 s] 3)).alloc (.cells #[.bool false] 4)).alloc (.cells #[.int .i64 s] 3) := ⟨_, rfl⟩
  have sW : W3.heap.size = m0 + 1 + 1 + 1 := by rw [eW3, em0]; simp
  have hR0 : Rest0 B W W3 := by rw [eW3]; exact ((rest0_alloc B W _).trans (rest0_alloc B _ _)).trans (rest0_alloc B _ _)
  have hBB : Below B W W3 := by rw [eW3]; exact (((Below.refl B W).alloc (by omega) _).alloc (by simp <;> omega) _).alloc (by simp <;> omega) _
  have hb2 : Below 2 W W3 := by rw [eW3]; exact (((Below.refl 2 W).alloc (by omega) _).alloc (by simp <;> omega) _).alloc (by simp <;> omega) _
  have bf : Boxed W3 m0 3 (.int .i64 s) := by rw [eW3, em0]; exact ((Boxed.new W _ _).alloc _).alloc _
  have br : Boxed W3 (m0 + 1) 4 (.bool false) := by
    rw [eW3, em0]; have h := Boxed.new (W.alloc (.cells #[.int .i64 s] 3)) 4 (.bool false); rw [World.size_alloc] at h; exact h.alloc _
  have bs : W3.cell? ⟨m0 + 1 + 1, 0, none⟩ = some (.int .i64 s) := by
    rw [eW3, em0]; have h := Boxed.new ((W.alloc (.cells #[.int .i64 s] 3)).alloc (.cells #[.bool false] 4)) 3 (.int .i64 s); rw [World.size_alloc, World.size_alloc] at h; exact h.cell
  have hst3 := st_rest0 hst hR0
  have hj3 := hO.far _ _ _ hj hBB (soft_rest hR0.p hBB)
  have hT3 := hO.tab _ _ hj3
  have HO := Lib.hid hO
  have IH := Lib.hid ih
  have HK := Lib.hid hk
  have HPL := Lib.hid hPl
  have HPN := Lib.hid hPn
  have EW3 := Lib.hid eW3
  have EM0 := Lib.hid em0
  have SW := Lib.hid sW
  have hmB : B + 4 ≤ m0 := by omega
  clear ih hk hPl hst hj hO eW3 hPn hBB em0 sW hBW hs0
  refine callsIn_of_wp_marks Tryd.func131 rfl trivial ?_ rfl
  simp only [Tryd.ntmps131, List.size_toArray, List.length_cons, List.length_nil, Nat.reduceAdd, Nat.reduceSub, Array.replicate_succ, Array.replicate_zero, List.push_toArray, List.append_toArray, List.nil_append, List.cons_append]
  gi_wp2_with (refine ⟨trivial, ?_⟩; gi_at_call 107; refine (callsIn_wide.2 (nodesIn_any s _)).mono ?_; rintro e w' ⟨rfl, rfl⟩)
  rw [← EW3.out]
  rw [← EM0.out]
  refine wpIn_rangeFunc_ownG (α := Nd n s) rfl (by omega) (gf := 126) (lb := #[.pointer (some ⟨m0 + 1 + 1, 0, none⟩)]) rfl trivial (enters_of Tryd.func126 (by kernel_rfl) rfl)
    (nodes_stops _ (m0 + 1 + 1) n s 2 (by omega) hn hs W3 (by have := SW.out; have := EM0.out; omega) bs hT3 (by omega) (by have := SW.out; have := EM0.out; omega)) belowK_t (belowK_b (by have := SW.out; have := EM0.out; omega)) (Below.refl _ _) (fun _ => rfl)
    (TI B l n fx k s m0 fit J acc P W) (TX B n k s m0 fit Jx acc P W) ?ownI ?ownX ⟨hj3, hst3, bf, br, hR0.p, hb2⟩
    (fun x => { tmps := #[.int .i64 s, .pointer (some ⟨B, 0, none⟩), .pointer (some ⟨B + 2, 0, none⟩), .pointer (some ⟨fx, 0, none⟩), .pointer (some ⟨B + 3, 0, none⟩), .pointer (some ⟨m0, 0, none⟩), .pointer (some ⟨m0 + 1, 0, none⟩), .int .i64 (x.1 : Int), .int .i64 s, .bool false, undef, undef, undef, .int .i64 s,
      .func (.func 126) #[] #[.pointer (some ⟨m0 + 1 + 1, 0, none⟩)], .int .i64 (x.1 : Int), undef, undef, undef, undef, undef, undef, undef, undef, undef, undef, undef, undef, undef, undef, undef, undef, undef, undef, undef, undef, undef], defers := [] }) ?assign ?body ?done ?stop
  case ownI =>
    rintro pre X Y row ⟨h1, h2, h3, h4, h5, h6⟩ hg hr
    have hsz := h2.1.lt
    refine ⟨HO.out.far _ X Y h1 ((Below.refl B X).grown hg (by omega) (fun r e => by have := (hr r e).1; have := SW.out; have := EM0.out; omega)) (soft_grown hg (fun r e => ⟨by have := (hr r e).1; have := SW.out; have := EM0.out; omega, .inr (.inr (by obtain ⟨o, ho, hc⟩ := (hr r e).2; exact ⟨o, ho, soft_of_not_cells hc⟩))⟩)), h2.grown hg (fun r e => by have := (hr r e).1; have := SW.out; have := EM0.out; omega), h3.kept hg (fun e => by have := (hr _ e.symm).1; have := SW.out; have := EM0.out; omega), h4.kept hg (fun e => by have := (hr _ e.symm).1; have := SW.out; have := EM0.out; omega), ?_, h6.grown hg (by have := h6.size; omega) (fun r e => by have := (hr r e).1; have := SW.out; have := EM0.out; omega)⟩
    exact restP_later h5 (Nat.le_refl _) (fun i o hi _ _ h7 => (hg.block i (Array.getElem?_eq_some_iff.1 h7).1 (fun e => by have := (hr _ e.symm).1; have := SW.out; have := EM0.out; omega)).trans h7) hg.size
  case ownX =>
    rintro cd pre X Y row ⟨h1, ⟨xs, h2, h3⟩, h4, h5⟩ hg hr
    refine ⟨h1, ⟨xs, HO.out.farx _ X Y row h2 hg (fun r e => ⟨by have := (hr r e).1; have := SW.out; have := EM0.out; omega, .inl (hr r e).2⟩), h3⟩, h4.kept hg (fun e => by have := (hr _ e.symm).1; have := SW.out; have := EM0.out; omega), ?_⟩
    exact restP_later h5 (Nat.le_refl _) (fun i o hi _ _ h7 => (hg.block i (Array.getElem?_eq_some_iff.1 h7).1 (fun e => by have := (hr _ e.symm).1; have := SW.out; have := EM0.out; omega)).trans h7) hg.size
  case assign =>
    intro l2 x Z K hK
    gi_wp2
    exact hK
  case done =>
    rintro D xs Z hD hS ⟨h1, h2, h3, h4, h5, h6⟩ hK
    have z1 := h4.cell
    have z2 := h4.frozen
    rw [hS] at h1
    have H1 := Lib.hid h1
    have H2 := Lib.hid h2
    have H4 := Lib.hid h4
    have H5 := Lib.hid h5
    have hDm : D ≠ m0 + 1 := by have := SW.out; have := EM0.out; omega
    have hK2 : (Z.setCell ⟨m0 + 1, 0, none⟩ (.bool true)).heap[D]? = some (.deferred (some [])) := (Below.heap_setCell _ _ _ D (fun e => hDm e)).trans hK
    clear h1 h2 h4 h5 hS hK
    gi_wp2
    refine ⟨by simp, .inl ⟨_, _, rfl, run_takeDeferred hK2, ?_⟩⟩
    have gD := grownBy_putObj' (Z.setCell ⟨m0 + 1, 0, none⟩ (.bool true)) D (.deferred none)
    have zc := (((H4.out.set (.bool true)).kept gD (fun e => hDm (by injection e with e; exact e.symm)))).cell
    refine ⟨.bool true, by simp [results, Tryd.f131, go_sem, zc], .inl ⟨rfl, ?_, ?_, ?_, ?_⟩⟩
    · rw [dfs_succ]
      refine HO.out.far _ Z _ H1.out ((((Below.refl B Z).setCell (p := ⟨m0 + 1, 0, none⟩) (by show B ≤ m0 + 1; omega) _)).grown gD (by have := H2.out.1.lt; simp [World.size_setCell]; omega) (fun r e => by cases e; have := SW.out; have := EM0.out; omega)) ((soft_grown (grownBy_setCell' Z _ _) (fun r e => by cases e; exact ⟨by omega, .inr (.inr (soft_bool H4.out))⟩)).trans (soft_grown gD (fun r e => by cases e; exact ⟨by have := SW.out; have := EM0.out; omega, .inr (.inr ⟨_, hK2, rfl⟩)⟩)))
    · exact (H2.out.grown (grownBy_setCell' Z _ _) (fun r e => by cases e; omega)).grown gD (fun r e => by cases e; have := SW.out; have := EM0.out; omega)
    · refine restP_later (restP_set H5.out (by have := EM0.out; omega)) (Nat.le_refl _) (fun i o hi _ _ h7 => (gD.block i (Array.getElem?_eq_some_iff.1 h7).1 (fun e => by injection e with e; have := SW.out; have := EM0.out; omega)).trans h7) gD.size
    · exact (h6.setCell (p := ⟨m0 + 1, 0, none⟩) (by show 2 ≤ m0 + 1; omega) _).grown gD (by have := h6.size; have := EM0.out; simp [World.size_setCell]; omega) (fun r e => by cases e; have := SW.out; have := EM0.out; omega)
  case stop =>
    rintro D cd pre Z hD hSp ⟨rfl, ⟨xs, h2, h3⟩, h4, h5⟩ hK
    have z1 := h4.cell
    gi_wp2
    refine ⟨by simp, .inl ⟨_, _, rfl, run_takeDeferred hK, ?_⟩⟩
    have gD := grownBy_putObj' Z D (.deferred none)
    have hDm : D ≠ m0 + 1 := by have := SW.out; have := EM0.out; omega
    have zc := (h4.kept gD (fun e => hDm (by injection e with e; exact e.symm))).cell
    refine ⟨.bool false, by simp [results, Tryd.f131, go_sem, zc], .inr ⟨rfl, ⟨xs, ?_, ?_⟩, ?_⟩⟩
    · exact HO.out.farx _ Z _ _ h2 gD (fun r e => by cases e; exact ⟨by have := SW.out; have := EM0.out; omega, .inl ⟨_, hK, rfl⟩⟩)
    · rw [dfs_succ]; exact h3.trans (runF_mono _ _ _ _ _ hSp)
    · exact restP_later h5 (Nat.le_refl _) (fun i o hi _ _ h7 => (gD.block i (Array.getElem?_eq_some_iff.1 h7).1 (fun e => by injection e with e; have := SW.out; have := EM0.out; omega)).trans h7) gD.size
  case body =>
    rintro l2 pre x Z ⟨h1, h2, h3, h4, h5, h6⟩ hlen
    clear hR0 hb2 bf br bs hst3 hj3 hT3 he0
    obtain ⟨v, hvn, hvq⟩ := x
    dsimp only at hvn hvq ⊢
    obtain ⟨accp, ea⟩ : ∃ accp, accp = runF fit k P s acc (valsN pre) := ⟨_, rfl⟩
    have hstep : runF fit k P s acc (valsN (pre ++ [(⟨v, hvn, hvq⟩ : Nd n s)])) = stepF fit k P s accp v := by rw [valsN_snoc, runF_snoc, ea]
    rw [← ea] at h1
    have hn64 := two_le hn
    have hs64 : s < 64 := by omega
    have hv6 : v < 6 := by omega
    obtain ⟨lb1, lb2⟩ := less_bit ⟨s, hs64⟩ ⟨v, hv6⟩
    dsimp only at lb1 lb2
    have hsl := less_lt s v n hs
    have hnl : (nodesL (less s (2 ^ v))).length = k := by have h7 := (lb2 hvq).2; have := HK.out; omega
    have w1 := wrap_pow v (by omega)
    have w2 : IntKind.i64.wrap ((2 : Int) ^ v) = ((2 ^ v : Nat) : Int) := by rw [IntKind.wrap_i64]; unfold wrap64 at w1; exact w1
    have hp64 : 2 ^ v < 1048576 := Nat.lt_of_le_of_lt (pow_le v 6 (by omega)) (by decide)
    have f1 := less_op s (2 ^ v) (by omega) hp64
    obtain ⟨p, ep⟩ : ∃ p, p = 2 ^ v := ⟨_, rfl⟩
    rw [← ep] at w1 w2 f1 hsl hnl
    obtain ⟨s', es'⟩ : ∃ s', s' = less s p := ⟨_, rfl⟩
    rw [← es'] at f1 hsl hnl
    obtain ⟨d, ed⟩ : ∃ d, d = P.length := ⟨_, rfl⟩
    have hdn : d + (k + 1) = n := by rw [ed]; exact HPN.out
    have hil : (ints P).length = d := by rw [ints_length, ed]
    have hiv : ints (P ++ [v]) = ints P ++ [(v : Int)] := by simp [ints]
    have hPv : (P ++ [v]).length = d + 1 := by simp [ed]
    have hPlv : ∀ x ∈ P ++ [v], x < n := fun x hx => by
      rcases List.mem_append.1 hx with h | h
      · exact HPL.out x h
      · rw [List.mem_singleton.1 h]; exact hvn
    have hdn1 : d + 1 ≤ n := by omega
    have z2 := h2.2.1.cell
    have hrw := h2.2.2.1
    rw [← ed] at z2 hrw
    have hZsz := h2.1.lt
    have H1 := Lib.hid h1
    have H2 := Lib.hid h2
    have H3 := Lib.hid h3
    have H4 := Lib.hid h4
    have H5 := Lib.hid h5
    have H6 := Lib.hid h6
    have HRW := Lib.hid hrw
    have HIL := Lib.hid hil
    have HIV := Lib.hid hiv
    have HPV := Lib.hid hPv
    have HPLV := Lib.hid hPlv
    have HST := Lib.hid hstep
    have HNL := Lib.hid hnl
    have HSL := Lib.hid hsl
    have ED := Lib.hid ed
    have ES := Lib.hid es'
    have EP := Lib.hid ep
    have W1 := Lib.hid w1
    have W2 := Lib.hid w2
    have F1 := Lib.hid f1
    clear h1 h2 h3 h4 h5 h6 hrw hil hiv hPv hPlv hstep hnl hsl ed es' ep lb1 lb2 hp64 hn64 hs64 ea hlen w1 w2 f1
    gi_wp2_with (gi_at_builtin; refine fitsIn_one rfl (.tmp 16) (.tmp 18) rfl Z B (B + 1) n d (ints P) (v : Int) HIL.out rfl rfl HRW.out hdn1 ?_; intro w1 hr' hg'
                 have q2 : Boxed w1 (B + 2) 23 (.slice (some ⟨B + 1, 0, none⟩) d n) := by
                   have h0 := H2.out.2.1
                   rw [← ED.out] at h0
                   exact (h0.alloc _).kept hg' (fun e => by injection e; omega)
                 have y2 := q2.cell
                 have y3 := q2.frozen
                 have HR' := Lib.hid hr'
                 have HG' := Lib.hid hg'
                 have Q2 := Lib.hid q2
                 clear hr' hg' q2)
    obtain ⟨Z1, eZ1⟩ : ∃ Z1, Z1 = w1.setCell ⟨B + 2, 0, none⟩ (.slice (some ⟨B + 1, 0, none⟩) (d + 1) n) := ⟨_, rfl⟩
    have gC : w1.grownBy Z1 (some (B + 2)) := by rw [eZ1]; exact grownBy_setCell' w1 _ _
    have rZ : RestP B Z Z1 := ((restP_alloc B Z _).trans (restP_of_grown HG'.out (fun r e => by cases e; exact .inl rfl))).trans (restP_of_grown gC (fun r e => by cases e; exact .inr (.inl rfl)))
    have bZ : Below B Z Z1 := (((Below.refl B Z).alloc (by omega) _).grown HG'.out (by rw [World.size_alloc]; omega) (fun r e => by cases e; omega)).grown gC (by have := HG'.out.size; rw [World.size_alloc] at this; omega) (fun r e => by cases e; omega)
    have q2 : Boxed Z1 (B + 2) 23 (.slice (some ⟨B + 1, 0, none⟩) (d + 1) n) := by rw [eZ1]; exact Q2.out.set _
    have q1 := boxed_restP H2.out.1 rZ (Nat.le_refl _) (by omega) (by omega)
    have q3 := boxed_restP H2.out.2.2.2 rZ (by omega) (by omega) (by omega)
    have q4 := boxed_restP H3.out rZ (by omega) (by omega) (by omega)
    have q5 := boxed_restP H4.out rZ (by omega) (by omega) (by omega)
    have qr : Row Z1 B (.slice (some ⟨B + 1, 0, none⟩) (d + 1) n) (ints (P ++ [v])) := by
      rw [HIV.out]
      exact World.ownsRow.kept HR'.out gC (.inr (fun e => by have e2 : some (B + 1) = some (B + 2) := e; injection e2; omega))
    have hst1 : St B l n fx (P ++ [v]) Z1 := by
      refine ⟨q1, ?_, ?_, q3⟩
      · rw [HPV.out]; exact q2
      · rw [HPV.out]; exact qr
    have hj1 : J accp Z1 := HO.out.far _ _ _ H1.out bZ (soft_rest rZ bZ)
    have hj1d : J accp Z1.drew := HO.out.far _ _ _ hj1 (Below.refl B Z1).drew (Soft.drew Z1)
    have hask := HO.out.asks accp (P ++ [v]) (.slice (some ⟨B + 1, 0, none⟩) (d + 1) n) Z1.drew hj1d qr (by rw [HPV.out]; omega) (by rw [HPV.out]; omega) HPLV.out
    have hen := HO.out.enters
    have zf := (HO.out.box _ _ hj1).cell
    have zq := q2.cell
    have RZ := Lib.hid rZ
    have BZ := Lib.hid bZ
    have QS := Lib.hid hst1
    have Q4 := Lib.hid q4
    have Q5 := Lib.hid q5
    have HJ1 := Lib.hid hj1
    have HASK := Lib.hid hask
    have EZ1 := Lib.hid eZ1
    rw [← eZ1]
    clear q2 q1 q3 q4 q5 qr hst1 hj1 hj1d hask rZ bZ gC y2 y3 z2 HR' HG' Q2 HRW eZ1
    have hZ1sz := QS.out.1.lt
    gi_wp2
    refine wpIn_guarded 5 (by kernel_rfl) (by kernel_rfl) ?_
    simp only [List.take_succ_cons, List.take_zero, List.drop_succ_cons, List.drop_zero]
    intro K1 hK1
    still_step
    still_step
    refine wpStill_nil ?_
    refine hK1 _ ?_
    clear hK1 K1
    intro K2 hK2
    clear zf zq
    by_cases hfit : fit accp (P ++ [v]) = true
    · rw [hfit] at HASK
      gi_wp2_with (refine ⟨trivial, ?_⟩; refine (CallsIn.inRound l2 (callsIn_wide.2 HASK.out)).mono ?_; rintro e Z2 ⟨rfl, hb⟩)
      have hb1 : Below Z1.heap.size Z1 Z2 := (Below.refl Z1.heap.size Z1).drew.trans hb
      have r2 := restP_below (B := B) hb1
      have bb : Below B Z1 Z2 := hb1.mono (by omega)
      have b22 : Below 2 Z1 Z2 := hb1.mono (by omega)
      have hst2 : St B l n fx (P ++ [v]) Z2 := by
        obtain ⟨a1, a2, a3, a4⟩ := QS.out
        exact ⟨(hb1.block _ (by omega)).trans a1, (hb1.block _ a2.lt).trans a2, Row.below a3 hb1, (hb1.block _ a4.lt).trans a4⟩
      have y1 := hst2.2.2.2.cell
      have q4 := boxed_restP Q4.out r2 (by omega) (by omega) (by omega)
      have q5 := boxed_restP Q5.out r2 (by omega) (by omega) (by omega)
      have y4 := q4.cell
      have R2 := Lib.hid ((RZ.out.trans r2))
      have R3 := Lib.hid ((H5.out.trans RZ.out).trans r2)
      have B3 := Lib.hid ((BZ.out.mono hB2).trans b22)
      have B4 := Lib.hid ((H6.out.trans (BZ.out.mono hB2)).trans b22)
      have Q42 := Lib.hid q4
      have Q52 := Lib.hid q5
      have hsz2 := hb1.size
      have hih := IH.out accp (P ++ [v]) s' Z2 HSL.out HNL.out (by rw [HPV.out]; omega) HPLV.out (by have := Q4.out.lt; omega) (HO.out.far _ _ _ HJ1.out bb (soft_rest r2 bb)) hst2
      have HIH := Lib.hid (callsIn_wide.1 hih)
      have w1 := W1.out
      have w2 := W2.out
      have f1 := F1.out
      clear hst2 q4 q5 r2 bb b22 hb1 hb hih
      intro K3 hK3
      repeat still_step
      refine wpStill_nil ?_
      refine hK3 _ ?_
      clear hK3 K3 w1 w2 f1 y1 y4
      gi_wp2_with fail
      refine ⟨trivial, ?_⟩
      refine (CallsIn.inRound l2 (callsIn_wide.2 HIH.out)).mono ?_
      rintro e Z3 (⟨rfl, t1, t2, t3, t4⟩ | ⟨rfl, ⟨xs, t1, t5⟩, t3⟩)
      · have q2 := t2.2.1
        rw [HPV.out] at q2
        have y2 := q2.cell
        have y3 := q2.frozen
        have hfin := shut_round (b := W3.heap.size) (Z := Z) (W := W) hB2 hmB (by have := SW.out; omega) ED.out HO.out.far t1 t2 (boxed_restP Q42.out t3 (by omega) (by omega) (by omega)) (boxed_restP Q52.out t3 (by omega) (by omega) (by omega))
          (R3.out.trans t3) (B4.out.trans t4) (R2.out.trans t3) (B3.out.trans t4)
        have HFIN := Lib.hid hfin
        clear q2 hfin t1 t2 t3 t4
        gi_wp2
        obtain ⟨a1, a2, a3⟩ := HFIN.out
        refine ⟨a1, a2, ?_⟩
        unfold TI
        rw [HST.out, show stepF fit k P s accp v = dfs fit k accp (P ++ [v]) s' by unfold stepF; rw [if_pos hfit, ES.out, EP.out]]
        exact a3
      · have q5 := boxed_restP Q52.out t3 (by omega) (by omega) (by omega)
        have y2 := q5.cell
        have y3 := q5.frozen
        have T1 := Lib.hid t1
        have T3 := Lib.hid t3
        have T5 := Lib.hid t5
        have Q53 := Lib.hid q5
        clear t1 t3 t5 q5
        gi_wp2
        refine ⟨(keepsFrom_restP (R2.out.trans T3.out) (by have := SW.out; omega)).trans ((KeepsOthers.setCell _ _ _).from _), rfl, ⟨xs, ?_, ?_⟩, ?_, ?_⟩
        · exact HO.out.farx _ Z3 _ _ T1.out (grownBy_setCell' Z3 _ _) (fun r e => by cases e; exact ⟨by omega, .inr ⟨_, Q53.out⟩⟩)
        · rw [HST.out, show stepF fit k P s accp v = dfs fit k accp (P ++ [v]) s' by unfold stepF; rw [if_pos hfit, ES.out, EP.out]]
          exact T5.out
        · exact Q53.out.set _
        · exact restP_set (R3.out.trans T3.out) (by have := EM0.out; omega)
    · have hff : fit accp (P ++ [v]) = false := by simpa using hfit
      rw [hff] at HASK
      gi_wp2_with (refine ⟨trivial, ?_⟩; refine (CallsIn.inRound l2 (callsIn_wide.2 HASK.out)).mono ?_; rintro e Z2 ⟨rfl, hb⟩)
      have hb1 : Below Z1.heap.size Z1 Z2 := (Below.refl Z1.heap.size Z1).drew.trans hb
      have r2 := restP_below (B := B) hb1
      have bb : Below B Z1 Z2 := hb1.mono (by omega)
      have b22 : Below 2 Z1 Z2 := hb1.mono (by omega)
      have hst2 : St B l n fx (P ++ [v]) Z2 := by
        obtain ⟨a1, a2, a3, a4⟩ := QS.out
        exact ⟨(hb1.block _ (by omega)).trans a1, (hb1.block _ a2.lt).trans a2, Row.below a3 hb1, (hb1.block _ a4.lt).trans a4⟩
      have q2 := hst2.2.1
      rw [HPV.out] at q2
      have y2 := q2.cell
      have y3 := q2.frozen
      have hfin := shut_round (b := W3.heap.size) (Z := Z) (W := W) hB2 hmB (by have := SW.out; omega) ED.out HO.out.far (HO.out.far _ _ _ HJ1.out bb (soft_rest r2 bb)) hst2 (boxed_restP Q4.out r2 (by omega) (by omega) (by omega)) (boxed_restP Q5.out r2 (by omega) (by omega) (by omega))
        ((H5.out.trans RZ.out).trans r2) ((H6.out.trans (BZ.out.mono hB2)).trans b22) (RZ.out.trans r2) ((BZ.out.mono hB2).trans b22)
      have HFIN := Lib.hid hfin
      clear hst2 q2 hfin r2 bb b22 hb1 hb
      intro K3 hK3
      repeat still_step
      refine wpStill_nil ?_
      refine hK3 _ ?_
      clear hK3 K3
      gi_wp2
      refine ⟨fun _ h => (by cases h), ?_⟩
      gi_wp2
      obtain ⟨a1, a2, a3⟩ := HFIN.out
      refine ⟨a1, a2, ?_⟩
      unfold TI
      rw [HST.out, show stepF fit k P s accp v = accp by unfold stepF; rw [if_neg hfit]]
      exact a3

theorem try_in {B l n fx fid : Nat} {fcap : Array Value} {fit : List (List Nat) → List Nat → Bool} {J Jx : List (List Nat) → World → Prop} (hn : n ≤ 6) (hB2 : 2 ≤ B) (hfx : fx < B) (hO : Owes B l n fx fid fcap fit J Jx) :
    ∀ (k : Nat) (acc : List (List Nat)) (P : List Nat) (s : Nat) (W : World), s < 2 ^ n → (nodesL s).length = k → P.length + k = n → (∀ x ∈ P, x < n) → B + 4 ≤ W.heap.size → J acc W → St B l n fx P W →
      CallsIn Fence.wide 9 Tryd.prog 131 #[.int .i64 s, .pointer (some ⟨B, 0, none⟩), .pointer (some ⟨B + 2, 0, none⟩), .pointer (some ⟨fx, 0, none⟩), .pointer (some ⟨B + 3, 0, none⟩)] W (Tried B l n fx P (dfs fit k acc P s) J Jx W) := by
  intro k
  induction k with
  | zero =>
    intro acc P s W hs hk hPn hPl hBW hj hst
    have h64 := two_le hn
    have h0 := nodes_none ⟨s, by omega⟩ hk
    dsimp only at h0
    subst h0
    exact try_zero hB2 hO acc P W hBW hj hst (by omega) hPl
  | succ k ih =>
    intro acc P s W hs hk hPn hPl hBW hj hst
    exact try_succ hn hB2 hfx hO k ih acc P s W hs hk hPn hPl hBW hj hst

end Go.Proofs.YtcemhepojjbcgaaDoor

/- A loop over an iterator whose own text is a loop over another iterator: the contract for such an iterator, and what a caller owes. -/






namespace Go.Proofs.YtcemhepojjbcgaaDoor
open Go.RowKit Go.Shelf
set_option linter.unusedVariables false

/-- Some blocks lie as they lay. -/
def Lie (b d : Nat) (A B : World) : Prop := ∀ (k : Nat) (o : Obj), b ≤ k → k < b + d → A.heap[k]? = some o → B.heap[k]? = some o
theorem Lie.trans {b d : Nat} {A B C : World} (h : Lie b d A B) (k : Lie b d B C) : Lie b d A C := fun i o h1 h2 h3 => k i o h1 h2 (h i o h1 h2 h3)
theorem lie_put {b d : Nat} {W : World} {l : Nat} (o' : Obj) (h : l < b) : Lie b d W (W.putObj l o') := fun k o h1 _ h3 => (World.putObj_heap_other (by omega)).trans h3

/-- The iterator lays blocks of its own while it runs (d of them first): the caller's facts abide them, and a round leaves them alone. -/
def Outer (d : Nat) {α : Type} (F : Fence) (n : Nat) (P : Program) (g : Nat) (lb : Array Value) (encs : α → Array Value) (Kp : World → World → Prop) (S Sp : List α → Prop) (N : Nat) (w : World) : Prop :=
  ∀ (l : Nat) (J Jx : List α → World → Prop) (W : World), Below w.heap.size w W → OwnFrom W.heap.size J → OwnFrom W.heap.size Jx →
    (∀ pre x W1, J pre W1 → pre.length < N → YieldAt F (n - 1) P l (encs x) W1 fun e W' =>
      (e = .returned (.bool true) ∧ J (pre ++ [x]) W' ∧ Kp W1 W' ∧ KeepsFrom W.heap.size W1 W' ∧ Lie W.heap.size d W1 W') ∨ (e = .returned (.bool false) ∧ Jx (pre ++ [x]) W' ∧ KeepsFrom W.heap.size W1 W' ∧ Lie W.heap.size d W1 W')) →
    J [] W →
    CallsIn F n P g (#[.func (.yield l) #[] #[]] ++ lb) W fun e W' => (∃ v, e = .returned v) ∧ ((∃ xs, S xs ∧ J xs W') ∨ (∃ pre, Sp pre ∧ Jx pre W'))

theorem keepsFrom_put {B : Nat} {W : World} {l : Nat} (o' : Obj) (h : l < B) : KeepsFrom B W (W.putObj l o') :=
  KeepsFrom.of_grownBy (grownBy_putObj' W l o') (fun j e => by cases e; exact h)
theorem keepsFrom_up {B B' : Nat} {W W' : World} (h : KeepsFrom B W W') (hb : B ≤ B') : KeepsFrom B' W W' := ⟨h.size, fun k o hk => h.same k o (Nat.le_trans hb hk)⟩

variable {F : Fence} {n : Nat} {P : Program}

/-- What a caller of such an iterator owes. -/
theorem wpIn_outer {α : Type} {g : Operand} {ps : Array Tmp} {assign body : Code} {Q : Exit → Act → World → Prop} {a : Act} {w : World}
    (hro : F.round = none) (h1 : 1 ≤ n) {gf : Nat} {lb : Array Value} (hg : a.eval g = .func (.func gf) #[] lb) (hFg : F.fn gf) (eg : ∀ args w, (callFunc gf args).run P w = .ok (.enter gf args) w)
    {encs : α → Array Value} {Kp : World → World → Prop} {S Sp : List α → Prop} {N : Nat} {w0 : World} {d : Nat} (hseq : Outer d F (n - 1) P gf lb encs Kp S Sp N w0)
    (hKt : ∀ {A B C : World}, Kp A B → Kp B C → Kp A C) (hKb : ∀ (W : World) (l : Nat) (o o' : Obj), w.heap.size ≤ l → W.heap[l]? = some o → o.isCells = false → o.isWalk = false → Kp W (W.putObj l o')) (hb0 : Below w0.heap.size w0 w) (hps : ∀ x, (encs x).size = ps.size)
    (I : List α → World → Prop) (Ix : Code → List α → World → Prop) (hI : OwnFrom w.heap.size I) (hIx : ∀ c, OwnFrom w.heap.size (Ix c)) (h0 : I [] w) (a₁ : α → Act)
    (hassign : ∀ (l : Nat) (x : α) (W : World) (K : Act → World → Prop), K (a₁ x) W →
      assign.wpIn (F.inRound l) (n - 1 - 1) P (Exit.then K (fun _ _ _ => False)) { tmps := (ps.zip (encs x)).foldl (fun t (p, v) => t.setIfInBounds p v) a.tmps, defers := [] } W)
    (hbody : ∀ (l : Nat) (pre : List α) (x : α) (W : World), I pre W → pre.length < N → body.wpIn (F.inRound l) (n - 1 - 1) P (fun e a' Z => ownPostG w.heap.size Kp I Ix (pre ++ [x]) W e a' Z ∧ Lie (w.heap.size + 2) d W Z) (a₁ x) W)
    (hdone : ∀ (D : Nat) (xs : List α) (W : World), w.heap.size ≤ D → S xs → I xs W → W.heap[D]? = some (.deferred (some [])) → Q .normal { a with defers := { target := .collected D, args := #[] } :: a.defers } W)
    (hstop : ∀ (D : Nat) (c : Code) (pre : List α) (W : World), w.heap.size ≤ D → Sp pre → Ix c pre W → W.heap[D]? = some (.deferred (some [])) → c.wpIn F n P Q { a with defers := { target := .collected D, args := #[] } :: a.defers } W) :
    (Code.rangeFunc g ps assign body).wpIn F n P Q a w := by
  refine wpIn_rangeFunc ?_
  intro fn hfn
  rw [hro]
  -- the loop's record, in one of its states
  obtain ⟨m, hm⟩ : ∃ m, m = w.heap.size := ⟨_, rfl⟩
  obtain ⟨at_, hat⟩ : ∃ at_ : LoopState → Option Code → Obj, at_ = fun st pe => .loop { state := st, pending := pe, fn, tmps := a.tmps, params := ps, assign, body, defers := m } := ⟨_, rfl⟩
  obtain ⟨V, hV⟩ : ∃ V, V = (w.alloc (.deferred (some []))).alloc (at_ .ready none) := ⟨_, rfl⟩
  have sV : V.heap.size = m + 2 := by rw [hV, hm]; simp
  have rV : V.heap[m + 1]? = some (at_ .ready none) := by
    have e := World.alloc_heap_new (w.alloc (.deferred (some []))) (at_ .ready none)
    rw [World.size_alloc, ← hm] at e
    rw [hV]; exact e
  have dV : V.heap[m]? = some (.deferred (some [])) := by
    rw [hV, hm]; exact (Below.heap_alloc _ _ _ (by simp)).trans (World.alloc_heap_new w _)
  have iV : I [] V := by rw [hV]; exact hI.alloc _ (hI.alloc _ h0)
  have bV : Below w0.heap.size w0 V := by
    rw [hV]; exact hb0.trans ((((Below.refl _ w).alloc (Nat.le_refl _) _).alloc (by simp) _).mono hb0.size)
  refine ⟨m + 1, [{ target := .collected m, args := #[] }], V, { target := .fn (.func gf) lb, args := #[.func (.yield (m + 1)) #[] #[]] }, V, gf, #[.func (.yield (m + 1)) #[] #[]] ++ lb, V, ?_, ?_, ?_, ?_, fun _ => h1, ?_⟩
  · rw [hV, hat, hm]; exact run_enterLoop_outer _ _ _ _ _
  · simp only [resolve, hg]
    simp [go_sem]
  · intro f' hf'; simp [Target.leads] at hf'; subst hf'; exact hFg
  · simp [invoke, go_sem, eg]
  · rw [← hm] at hI hIx hbody hdone hstop hKb
    have up : ∀ {row : Option Nat} {A : World}, (∀ r, row = some r → V.heap.size ≤ r ∧ ∃ o : Obj, A.heap[r]? = some o ∧ o.isCells = false) → (∀ r, row = some r → m ≤ r ∧ ∃ o : Obj, A.heap[r]? = some o ∧ o.isCells = false) :=
      fun h r e => ⟨by have := (h r e).1; omega, (h r e).2⟩
    have far : ∀ {row : Option Nat} {A B : World} {k : Nat} {o : Obj}, A.grownBy B row → (∀ r, row = some r → V.heap.size ≤ r ∧ ∃ o : Obj, A.heap[r]? = some o ∧ o.isCells = false) → k < m + 2 → A.heap[k]? = some o → B.heap[k]? = some o :=
      fun hgr h hk e => (hgr.block _ (Array.getElem?_eq_some_iff.1 e).1 (fun e' => by have := (h _ e'.symm).1; omega)).trans e
    refine (hseq (m + 1) (fun pre W => I pre W ∧ W.heap[m + 1]? = some (at_ .ready none) ∧ W.heap[m]? = some (.deferred (some [])))
      (fun pre W => ∃ c, Ix c pre W ∧ W.heap[m + 1]? = some (at_ .done (some c)) ∧ W.heap[m]? = some (.deferred (some []))) V bV
      (fun s A B row hs hgr hr => ⟨hI s A B row hs.1 hgr (up hr), far hgr hr (by omega) hs.2.1, far hgr hr (by omega) hs.2.2⟩)
      (fun s A B row hs hgr hr => by
        obtain ⟨c, q1, q2, q3⟩ := hs
        exact ⟨c, hIx c s A B row q1 hgr (up hr), far hgr hr (by omega) q2, far hgr hr (by omega) q3⟩)
      ?_ ⟨iV, rV, dV⟩).mono ?_
    · -- a round
      rintro pre x W ⟨hi, hl, hd⟩ hlen
      have hlt : m + 1 < W.heap.size := (Array.getElem?_eq_some_iff.1 hl).1
      have hl' := hl
      rw [hat] at hl'
      have hy := run_yield (P := P) (args := encs x) hl' (by exact hps x)
      refine ⟨fn, _, assign, body, hy, roundIn_of_wpIn hfn (hassign _ x W _ ⟨_, run_beginRound hl' rfl, ?_⟩)⟩
      obtain ⟨U, hU⟩ : ∃ U, U = W.putObj (m + 1) (at_ .busy none) := ⟨_, rfl⟩
      have rU : U.heap[m + 1]? = some (at_ .busy none) := by rw [hU]; exact World.putObj_heap_same hlt
      have dU : U.heap[m]? = some (.deferred (some [])) := by rw [hU]; exact (World.putObj_heap_other (by omega)).trans hd
      have kU : Kp W U := by rw [hU]; exact hKb _ _ _ _ (by omega) hl (by rw [hat]; rfl) (by rw [hat]; rfl)
      have iU : I pre U := by rw [hU]; exact hI.putObj _ hi (by omega) hl (by rw [hat]; rfl)
      have fU : KeepsFrom V.heap.size W U := by rw [hU]; exact keepsFrom_put _ (by omega)
      have lU : Lie V.heap.size d W U := by rw [hU]; exact lie_put _ (by omega)
      have eU : W.putObj (m + 1) (.loop { state := .busy, pending := none, fn, tmps := a.tmps, params := ps, assign, body, defers := m }) = U := by rw [hU, hat]
      show body.wpIn _ _ _ _ _ (W.putObj (m + 1) (.loop { state := .busy, pending := none, fn, tmps := a.tmps, params := ps, assign, body, defers := m }))
      rw [eU]
      refine wpIn_mono (hbody _ pre x U iU hlen) ?_
      have fin : ∀ (jump : Option Code) (Z : World), KeepsFrom m U Z → Lie (m + 2) d U Z →
          (Instr.endRound (m + 1) jump).run P Z = .ok (.bool jump.isNone) (Z.putObj (m + 1) (at_ (if jump.isNone then .ready else .done) jump)) ∧ Z.heap[m + 1]? = some (at_ .busy none) ∧
          (Z.putObj (m + 1) (at_ (if jump.isNone then .ready else .done) jump)).heap[m + 1]? = some (at_ (if jump.isNone then .ready else .done) jump) ∧
          (Z.putObj (m + 1) (at_ (if jump.isNone then .ready else .done) jump)).heap[m]? = some (.deferred (some [])) ∧ KeepsFrom V.heap.size W (Z.putObj (m + 1) (at_ (if jump.isNone then .ready else .done) jump)) ∧ Lie V.heap.size d W (Z.putObj (m + 1) (at_ (if jump.isNone then .ready else .done) jump)) := fun jump Z hk hz => by
        have h3 := hk.same _ _ (by omega) rU (by rw [hat]; rfl)
        have h4 := h3
        rw [hat] at h4
        have h5 := run_endRound (P := P) jump h4
        refine ⟨by rw [hat]; exact h5, h3, World.putObj_heap_same (Array.getElem?_eq_some_iff.1 h3).1, (World.putObj_heap_other (by omega)).trans (hk.same _ _ (Nat.le_refl _) dU rfl), (fU.trans (keepsFrom_up hk (by omega))).trans (keepsFrom_put _ (by omega)), (lU.trans (by rw [sV]; exact hz)).trans (lie_put _ (by omega))⟩
      rintro e a3 Z ⟨hp, hz⟩
      cases e with
      | normal =>
        obtain ⟨k1, k2, k3⟩ := hp
        obtain ⟨r1, r2, r3, r4, r5, r6⟩ := fin none Z k1 hz
        exact ⟨_, _, r1, .inl ⟨rfl, ⟨hI.putObj _ k3 (by omega) r2 (by rw [hat]; rfl), r3, r4⟩, hKt (hKt kU k2) (hKb _ _ _ _ (by omega) r2 (by rw [hat]; rfl) (by rw [hat]; rfl)), r5, r6⟩⟩
      | ret =>
        obtain ⟨k1, k3⟩ := hp
        obtain ⟨r1, r2, r3, r4, r5, r6⟩ := fin (some .ret) Z k1 hz
        exact ⟨_, _, r1, .inr ⟨rfl, ⟨.ret, (hIx _).putObj _ k3 (by omega) r2 (by rw [hat]; rfl), r3, r4⟩, r5, r6⟩⟩
      | exit id =>
        obtain ⟨k1, k3⟩ := hp
        obtain ⟨r1, r2, r3, r4, r5, r6⟩ := fin (some (.exit id)) Z k1 hz
        exact ⟨_, _, r1, .inr ⟨rfl, ⟨.exit id, (hIx _).putObj _ k3 (by omega) r2 (by rw [hat]; rfl), r3, r4⟩, r5, r6⟩⟩
      | goto t =>
        obtain ⟨k1, k3⟩ := hp
        obtain ⟨r1, r2, r3, r4, r5, r6⟩ := fin (some (.goto t)) Z k1 hz
        exact ⟨_, _, r1, .inr ⟨rfl, ⟨.goto t, (hIx _).putObj _ k3 (by omega) r2 (by rw [hat]; rfl), r3, r4⟩, r5, r6⟩⟩
      | panic ch => exact hp.elim
      | outgrown => exact hp.elim
    · -- behind the iterator
      rintro e Z ⟨⟨v, rfl⟩, (⟨xs, hS, hi, hl, hd⟩ | ⟨pre, hSp, c, hi, hl, hd⟩)⟩
      · have hl' := hl
        rw [hat] at hl'
        exact ⟨none, _, run_endLoop (P := P) hl' (by simp), hdone m xs _ (Nat.le_refl _) hS (hI.putObj _ hi (by omega) hl (by rw [hat]; rfl)) ((World.putObj_heap_other (by omega)).trans hd)⟩
      · have hl' := hl
        rw [hat] at hl'
        exact ⟨some c, _, run_endLoop (P := P) hl' (by simp), hstop m c pre _ (Nat.le_refl _) hSp ((hIx c).putObj _ hi (by omega) hl (by rw [hat]; rfl)) ((World.putObj_heap_other (by omega)).trans hd)⟩
end Go.Proofs.YtcemhepojjbcgaaDoor

/- The iterator over names, and what a loop over it owes. -/




namespace Go.Proofs.YtcemhepojjbcgaaDoor
open Go.RowKit Go.Shelf
attribute [local go_sem] Oper.semAt_some
set_option linter.unusedVariables false

theorem full_nodes : ∀ n : Fin 7, (nodesL (2 ^ n.val - 1)).length = n.val := by decide

theorem run_make_none (n : Nat) (hn : n ≤ 1048576) (w : World) :
    (Instr.makeSlice 23 (.int .i64 0) (.int .i64 (n : Int))).run Tryd.prog w = .ok (.slice (some ⟨w.heap.size, 0, none⟩) 0 n) (madeW w n) := by
  obtain ⟨i0, hi, hz0, hz1, hz2⟩ := info_parts infoInt
  have hr := run_make (P := Tryd.prog) w 23 3 i0 (.int .i64 0) Tryd.underlying23 hi hz0 .i64 .i64 0 n (by omega) (by omega) (by rw [hz2]; omega) (by omega)
  simp only [Int.toNat_natCast, Int.toNat_zero, hz1] at hr
  exact hr
theorem row_none (w : World) (n : Nat) (hn : n ≤ 1048576) : Row (madeW w n) w.heap.size (.slice (some ⟨w.heap.size, 0, none⟩) 0 n) [] := by
  refine ⟨by simp, .inr ⟨w.heap.size, n, madeCells #[.int .i64 0] (n * 1), rfl, Nat.le_refl _, World.alloc_heap_new w _, by simp, by unfold maxLen; omega, size_madeCells _ _, by simp⟩⟩

set_option maxRecDepth 100000 in
set_option maxHeartbeats 4000000 in
theorem namings_in {l n nb fx fid : Nat} {fcap : Array Value} {fit : List (List Nat) → List Nat → Bool} {J Jx : List (List Nat) → World → Prop} (h1 : 1 ≤ n) (hn : n ≤ 6) (W : World) (h2 : 2 ≤ W.heap.size) (hfx : fx < W.heap.size) (hnb : W.cell? ⟨nb, 0, none⟩ = some (.int .i64 n)) (hnl : nb < W.heap.size)
    (hO : Owes W.heap.size l n fx fid fcap fit J Jx) (hj : J [] W) :
    CallsIn Fence.wide 10 Tryd.prog 130 #[.func (.yield l) #[] #[], .pointer (some ⟨nb, 0, none⟩), .pointer (some ⟨fx, 0, none⟩)] W fun e W' =>
      (∃ v, e = .returned v) ∧ (J (allNames fit n) W' ∨ ∃ xs, Jx xs W' ∧ xs <+: allNames fit n) := by
  have hmk := run_make_none n (by omega)
  have hms : ∀ x, (madeW x n).heap.size = x.heap.size + 1 := fun x => madeW_size x n
  obtain ⟨P, Q, hP, hQ, hP64, p1, p2, p3, p4, p5⟩ := shl_facts n hn
  have hQ2 : Q = 2 ^ n - 1 := by omega
  have HO := Lib.hid hO
  have HJ := Lib.hid hj
  have HQ2 := Lib.hid hQ2
  obtain ⟨B, eB⟩ : ∃ B, B = W.heap.size := ⟨_, rfl⟩
  have EB := Lib.hid eB
  obtain ⟨U, eU⟩ : ∃ U, U = (madeW (W.alloc (.cells #[.func (.yield l) #[] #[]] 38)) n).alloc (.cells #[.slice (some ⟨W.heap.size + 1, 0, none⟩) 0 n] 23) := ⟨_, rfl⟩
  have sU : U.heap.size = W.heap.size + 1 + 1 + 1 := by rw [eU, World.size_alloc, hms, World.size_alloc]
  have bU : Below W.heap.size W U := by
    rw [eU]
    exact (((Below.refl W.heap.size W).alloc (Nat.le_refl _) _).trans ((madeW_below _ n).mono (by simp))).alloc (by rw [hms]; simp <;> omega) _
  have u0 : Boxed U W.heap.size 38 (.func (.yield l) #[] #[]) := by rw [eU]; exact ((Boxed.new W _ _).alloc _).alloc _
  have u1 : Row U W.heap.size (.slice (some ⟨W.heap.size + 1, 0, none⟩) 0 n) [] := by
    rw [eU]
    have h := row_none (W.alloc (.cells #[.func (.yield l) #[] #[]] 38)) n (by omega)
    rw [World.size_alloc] at h
    exact (Row.mono h (by omega)).alloc _
  have u2 : Boxed U (W.heap.size + 2) 23 (.slice (some ⟨W.heap.size + 1, 0, none⟩) 0 n) := by
    rw [eU]
    have h := Boxed.new (madeW (W.alloc (.cells #[.func (.yield l) #[] #[]] 38)) n) 23 (.slice (some ⟨W.heap.size + 1, 0, none⟩) 0 n)
    rw [hms, World.size_alloc] at h
    exact h
  have c3 := Boxed.new U 88 (.func (.func 131) #[] #[.pointer (some ⟨W.heap.size, 0, none⟩), .pointer (some ⟨W.heap.size + 1 + 1, 0, none⟩), .pointer (some ⟨fx, 0, none⟩), .pointer (some ⟨W.heap.size + 1 + 1 + 1, 0, none⟩)])
  rw [sU] at c3
  have v0 := u0.alloc (.cells #[(.func (.func 131) #[] #[.pointer (some ⟨W.heap.size, 0, none⟩), .pointer (some ⟨W.heap.size + 1 + 1, 0, none⟩), .pointer (some ⟨fx, 0, none⟩), .pointer (some ⟨W.heap.size + 1 + 1 + 1, 0, none⟩)])] 88)
  have v1 := Row.alloc u1 (.cells #[(.func (.func 131) #[] #[.pointer (some ⟨W.heap.size, 0, none⟩), .pointer (some ⟨W.heap.size + 1 + 1, 0, none⟩), .pointer (some ⟨fx, 0, none⟩), .pointer (some ⟨W.heap.size + 1 + 1 + 1, 0, none⟩)])] 88)
  have v2 := u2.alloc (.cells #[(.func (.func 131) #[] #[.pointer (some ⟨W.heap.size, 0, none⟩), .pointer (some ⟨W.heap.size + 1 + 1, 0, none⟩), .pointer (some ⟨fx, 0, none⟩), .pointer (some ⟨W.heap.size + 1 + 1 + 1, 0, none⟩)])] 88)
  have bV : Below W.heap.size W (U.alloc (.cells #[(.func (.func 131) #[] #[.pointer (some ⟨W.heap.size, 0, none⟩), .pointer (some ⟨W.heap.size + 1 + 1, 0, none⟩), .pointer (some ⟨fx, 0, none⟩), .pointer (some ⟨W.heap.size + 1 + 1 + 1, 0, none⟩)])] 88)) := bU.alloc (by omega) _
  have sV : (U.alloc (.cells #[(.func (.func 131) #[] #[.pointer (some ⟨W.heap.size, 0, none⟩), .pointer (some ⟨W.heap.size + 1 + 1, 0, none⟩), .pointer (some ⟨fx, 0, none⟩), .pointer (some ⟨W.heap.size + 1 + 1 + 1, 0, none⟩)])] 88)).heap.size = W.heap.size + 4 := by rw [World.size_alloc, sU]
  obtain ⟨V, eV⟩ : ∃ V, V = U.alloc (.cells #[(.func (.func 131) #[] #[.pointer (some ⟨W.heap.size, 0, none⟩), .pointer (some ⟨W.heap.size + 1 + 1, 0, none⟩), .pointer (some ⟨fx, 0, none⟩), .pointer (some ⟨W.heap.size + 1 + 1 + 1, 0, none⟩)])] 88) := ⟨_, rfl⟩
  rw [← eV] at c3 v0 v1 v2 bV sV
  rw [eU] at eV
  have EV := Lib.hid eV
  have C3 := Lib.hid c3
  have V0 := Lib.hid v0
  have V1 := Lib.hid v1
  have V2 := Lib.hid v2
  have BV := Lib.hid bV
  have SV := Lib.hid sV
  clear eU sU bU u0 u1 u2 c3 v0 v1 v2 bV sV eV
  clear hO hj hQ hP hQ2 eB
  refine callsIn_of_wp Tryd.func130 rfl trivial ?_ rfl
  simp only [Tryd.ntmps130, List.size_toArray, List.length_cons, List.length_nil, Nat.reduceAdd, Nat.reduceSub, Array.replicate_succ, Array.replicate_zero, List.push_toArray, List.append_toArray, List.nil_append, List.cons_append]
  gi_wp2
  rw [← EV.out]
  have x1 : V.cell? ⟨nb, 0, none⟩ = some (.int .i64 n) := (BV.out.cell (p := ⟨nb, 0, none⟩) hnl).trans hnb
  have x2 := C3.out.cell
  have hT : Fence.wide = Fence.wide := rfl
  have hjV : J [] V.drew := HO.out.far _ _ _ HJ.out BV.out.drew (soft_new BV.out.drew)
  have hst : St W.heap.size l n fx [] V.drew := ⟨V0.out, V2.out, V1.out, C3.out⟩
  have hfull := full_nodes ⟨n, by omega⟩
  dsimp only at hfull
  rw [← HQ2.out] at hfull
  have htry := try_in hn h2 hfx HO.out n [] [] Q V.drew (by have := two_pos n; have := HQ2.out; omega) hfull (by simp) (fun x hx => by cases hx) (by have := SV.out; show W.heap.size + 4 ≤ V.heap.size; omega) hjV hst
  have HTRY := Lib.hid (callsIn_wide.1 htry)
  obtain ⟨B, eB⟩ : ∃ B, B = W.heap.size := ⟨_, rfl⟩
  rw [← eB] at HTRY x2 ⊢
  have EB := Lib.hid eB
  clear hjV hst htry hfull hT EV C3 V0 V1 V2 BV eB hmk hms
  refine wpIn_wide.2 (wp_region_still_tail 4 (by kernel_rfl) (by kernel_rfl) ?_)
  simp only [List.take_succ_cons, List.take_zero, List.drop_succ_cons, List.drop_zero]
  repeat still_step
  refine wpStill_nil ?_
  change wpList _ _ _ _ _ V.drew
  go_wp2_with fail
  refine HTRY.out.mono ?_
  rintro e Z (⟨rfl, t1, _, _, _⟩ | ⟨rfl, ⟨xs, t1, t5⟩, _⟩)
  · have T1 := Lib.hid (show J (allNames fit n) Z by unfold allNames; rw [← HQ2.out]; exact t1)
    clear t1
    go_wp2
    go_end0
    exact ⟨⟨_, rfl⟩, .inl T1.out⟩
  · have T1 := Lib.hid (show ∃ xs, Jx xs Z ∧ xs <+: allNames fit n from ⟨xs, t1, by unfold allNames; rw [← HQ2.out]; exact t5⟩)
    clear t1 t5
    go_wp2
    go_end0
    exact ⟨⟨_, rfl⟩, .inr T1.out⟩

/-- What a round of a loop over names owes. -/
def namePost (m : Nat) (I : List (List Nat) → World → Prop) (Ix : Code → List (List Nat) → World → Prop) (xs : List (List Nat)) (W : World) : Exit → Act → World → Prop
  | .normal, _, W' => KeepsFrom m W W' ∧ Rest0 (m + 2) W W' ∧ Below 2 W W' ∧ I xs W'
  | .ret, _, W' => KeepsFrom m W W' ∧ Rest0 (m + 2) W W' ∧ Ix .ret xs W'
  | _, _, _ => False

/-- **A loop over names.** -/
theorem wpIn_namesS {N n nb fx fid : Nat} {fcap : Array Value} {fit : List (List Nat) → List Nat → Bool} {g : Operand} {ps : Array Tmp} {assign body : Code} {Q : Exit → Act → World → Prop} {a : Act} {w : World}
    (h1 : 1 ≤ n) (hn : n ≤ 6) (h2 : 2 ≤ w.heap.size) (hps : ps.size = 1) (hfx : fx < w.heap.size) (hnb : w.cell? ⟨nb, 0, none⟩ = some (.int .i64 n)) (hnl : nb < w.heap.size)
    (hg : a.eval g = .func (.func 130) #[] #[.pointer (some ⟨nb, 0, none⟩), .pointer (some ⟨fx, 0, none⟩)])
    (I : List (List Nat) → World → Prop) (Ix : Code → List (List Nat) → World → Prop)
    (hfar : ∀ s X Y, I s X → Below w.heap.size X Y → SoftN w.heap.size X Y → I s Y)
    (hfarx : ∀ c s X Y row, Ix c s X → X.grownBy Y row → (∀ r, row = some r → w.heap.size ≤ r ∧ ((∃ o : Obj, X.heap[r]? = some o ∧ o.isCells = false) ∨ ∃ v, Boxed X r 4 v)) → Ix c s Y)
    (hbox : ∀ s X, I s X → Boxed X fx 38 (.func (.func fid) #[] fcap)) (htab : ∀ s X, I s X → Tab X) (hen : ∀ args w, (callFunc fid args).run Tryd.prog w = .ok (.enter fid args) w)
    (hask : ∀ acc P v W, I acc W → Row W w.heap.size v (ints P) → 1 ≤ P.length → P.length ≤ n → (∀ x ∈ P, x < n) → Calls Tryd.prog fid (#[v] ++ fcap) W fun e W' => e = .returned (.bool (fit acc P)) ∧ Below W.heap.size W W')
    (h0 : I [] w) (a₁ : Value → Act)
    (hassign : ∀ (l : Nat) (v : Value) (W : World) (K : Act → World → Prop), K (a₁ v) W → assign.wpIn (Fence.wide.inRound l) 8 Tryd.prog (Exit.then K (fun _ _ _ => False)) { tmps := (ps.zip #[v]).foldl (fun t (p, v) => t.setIfInBounds p v) a.tmps, defers := [] } W)
    (hbody : ∀ (l : Nat) (acc : List (List Nat)) (P : List Nat) (v : Value) (W : World), w.heap.size + 6 ≤ W.heap.size → I acc W → Row W w.heap.size v (ints P) → P.length = n → (∀ x ∈ P, x < n) → body.wpIn (Fence.wide.inRound l) 8 Tryd.prog (namePost w.heap.size I Ix (acc ++ [P]) W) (a₁ v) W)
    (hdone : ∀ (D : Nat) (W : World), w.heap.size ≤ D → I (allNames fit n) W → W.heap[D]? = some (.deferred (some [])) → Q .normal { a with defers := { target := .collected D, args := #[] } :: a.defers } W)
    (hstop : ∀ (D : Nat) (xs : List (List Nat)) (W : World), w.heap.size ≤ D → xs <+: allNames fit n → Ix .ret xs W → W.heap[D]? = some (.deferred (some [])) → Code.ret.wpIn Fence.wide N Tryd.prog Q { a with defers := { target := .collected D, args := #[] } :: a.defers } W) :
    (Code.rangeFunc g ps assign body).wpIn Fence.wide N Tryd.prog Q a w := by
  refine wpIn_rangeFunc ?_
  intro fn hfn
  obtain ⟨m, hm⟩ : ∃ m, m = w.heap.size := ⟨_, rfl⟩
  obtain ⟨at_, hat⟩ : ∃ at_ : LoopState → Option Code → Obj, at_ = fun st pe => .loop { state := st, pending := pe, fn, tmps := a.tmps, params := ps, assign, body, defers := m } := ⟨_, rfl⟩
  obtain ⟨V, hV⟩ : ∃ V, V = (w.alloc (.deferred (some []))).alloc (at_ .ready none) := ⟨_, rfl⟩
  have sV : V.heap.size = m + 2 := by rw [hV, hm]; simp
  have rV : V.heap[m + 1]? = some (at_ .ready none) := by
    have e := World.alloc_heap_new (w.alloc (.deferred (some []))) (at_ .ready none)
    rw [World.size_alloc, ← hm] at e
    rw [hV]; exact e
  have dV : V.heap[m]? = some (.deferred (some [])) := by
    rw [hV, hm]; exact (Below.heap_alloc _ _ _ (by simp)).trans (World.alloc_heap_new w _)
  have bV : Below w.heap.size w V := by
    rw [hV]; exact ((Below.refl _ w).alloc (Nat.le_refl _) _).alloc (by simp) _
  have iV : I [] V := hfar _ _ _ h0 bV (softN_new bV)
  refine ⟨m + 1, [{ target := .collected m, args := #[] }], V, { target := .fn (.func 130) #[.pointer (some ⟨nb, 0, none⟩), .pointer (some ⟨fx, 0, none⟩)], args := #[.func (.yield (m + 1)) #[] #[]] }, V, 130, #[.func (.yield (m + 1)) #[] #[]] ++ #[.pointer (some ⟨nb, 0, none⟩), .pointer (some ⟨fx, 0, none⟩)], V, ?_, ?_, ?_, ?_, fun e => (by cases e), ?_⟩
  · rw [hV, hat, hm]; exact run_enterLoop_outer _ _ _ _ _
  · simp only [resolve, hg]
    simp [go_sem]
  · intro f' hf'; trivial
  · simp [invoke, go_sem]
  · rw [← hm] at hfar hfarx hbody hdone hstop hask hfx hnl h2 bV
    have hnbV : V.cell? ⟨nb, 0, none⟩ = some (.int .i64 n) := (bV.cell (p := ⟨nb, 0, none⟩) hnl).trans hnb
    have far2 : ∀ {X Y : World} {k : Nat} {o : Obj}, Below (m + 2) X Y → k < m + 2 → X.heap[k]? = some o → Y.heap[k]? = some o := fun hb hk e => (hb.block _ hk).trans e
    have hO : Owes V.heap.size (m + 1) n fx fid fcap fit (fun pre W => I pre W ∧ W.heap[m + 1]? = some (at_ .ready none) ∧ W.heap[m]? = some (.deferred (some []))) (fun pre W => Ix .ret pre W ∧ W.heap[m + 1]? = some (at_ .done (some .ret)) ∧ W.heap[m]? = some (.deferred (some []))) := by
      rw [sV]
      refine ⟨?_, ?_, fun s X h => hbox s X h.1, fun s X h => htab s X h.1, hen, ?_, ?_⟩
      · rintro s X Y ⟨q1, q2, q3⟩ hb hsf
        exact ⟨hfar s X Y q1 (hb.mono (by omega)) (softN_of hsf), far2 hb (by omega) q2, far2 hb (by omega) q3⟩
      · rintro s X Y row ⟨q1, q2, q3⟩ hgr hr
        refine ⟨hfarx .ret s X Y row q1 hgr (fun r e => ⟨by have := (hr r e).1; omega, (hr r e).2⟩), ?_, ?_⟩
        · exact (hgr.block _ (Array.getElem?_eq_some_iff.1 q2).1 (fun e => by have := (hr _ e.symm).1; omega)).trans q2
        · exact (hgr.block _ (Array.getElem?_eq_some_iff.1 q3).1 (fun e => by have := (hr _ e.symm).1; omega)).trans q3
      · rintro acc P v W ⟨q1, _, _⟩ hr p1 p2 p3
        exact hask acc P v W q1 (hr.mono (by omega)) p1 p2 p3
      · rintro acc P v W hsz6 ⟨hi, hl, hd⟩ hr p1 p2
        have hlt : m + 1 < W.heap.size := (Array.getElem?_eq_some_iff.1 hl).1
        have hl' := hl
        rw [hat] at hl'
        have hy := run_yield (P := Tryd.prog) (args := #[v]) hl' (by rw [hps]; rfl)
        refine ⟨fn, _, assign, body, hy, roundIn_of_wpIn hfn (hassign _ v W _ ⟨_, run_beginRound hl' rfl, ?_⟩)⟩
        obtain ⟨U, hU⟩ : ∃ U, U = W.putObj (m + 1) (at_ .busy none) := ⟨_, rfl⟩
        have gU : W.grownBy U (some (m + 1)) := by rw [hU]; exact grownBy_putObj' W _ _
        have rU : U.heap[m + 1]? = some (at_ .busy none) := by rw [hU]; exact World.putObj_heap_same hlt
        have dU : U.heap[m]? = some (.deferred (some [])) := by rw [hU]; exact (World.putObj_heap_other (by omega)).trans hd
        have bU : Below m W U := (Below.refl m W).grown gU (by omega) (fun r e => by cases e; omega)
        have iU : I acc U := hfar _ _ _ hi bU (softN_put gU (by omega) ⟨_, hl, by rw [hat]; rfl⟩)
        have r0U : Rest0 (m + 2) W U := ⟨gU.size, fun k o hk h => (gU.block k (Array.getElem?_eq_some_iff.1 h).1 (fun e => by injection e; omega)).trans h⟩
        have hrU : Row U m v (ints P) := by
          have hne : v.ownBlock = none ∨ v.ownBlock ≠ some (m + 1) := by
            rcases hr.2 with ⟨rfl, _⟩ | ⟨gg, cap, cur, rfl, hgb, _⟩
            · exact .inl rfl
            · exact .inr (fun e => by have e2 : some gg = some (m + 1) := e; injection e2; omega)
          exact Row.mono (World.ownsRow.kept hr gU hne) (by omega)
        have eU : W.putObj (m + 1) (.loop { state := .busy, pending := none, fn, tmps := a.tmps, params := ps, assign, body, defers := m }) = U := by rw [hU, hat]
        show body.wpIn _ _ _ _ _ (W.putObj (m + 1) (.loop { state := .busy, pending := none, fn, tmps := a.tmps, params := ps, assign, body, defers := m }))
        rw [eU]
        refine wpIn_mono (hbody _ acc P v U (by have := gU.size; omega) iU hrU p1 p2) ?_
        have fin : ∀ (jump : Option Code) (Z : World), KeepsFrom m U Z → Rest0 (m + 2) U Z →
            (Instr.endRound (m + 1) jump).run Tryd.prog Z = .ok (.bool jump.isNone) (Z.putObj (m + 1) (at_ (if jump.isNone then .ready else .done) jump)) ∧ Z.heap[m + 1]? = some (at_ .busy none) ∧
            (Z.putObj (m + 1) (at_ (if jump.isNone then .ready else .done) jump)).heap[m + 1]? = some (at_ (if jump.isNone then .ready else .done) jump) ∧
            (Z.putObj (m + 1) (at_ (if jump.isNone then .ready else .done) jump)).heap[m]? = some (.deferred (some [])) ∧ Rest0 (m + 2) W (Z.putObj (m + 1) (at_ (if jump.isNone then .ready else .done) jump)) := fun jump Z hk hz => by
          have h3 := hk.same _ _ (by omega) rU (by rw [hat]; rfl)
          have h4 := h3
          rw [hat] at h4
          have h5 := run_endRound (P := Tryd.prog) jump h4
          have gZ := grownBy_putObj' Z (m + 1) (at_ (if jump.isNone then .ready else .done) jump)
          refine ⟨by rw [hat]; exact h5, h3, World.putObj_heap_same (Array.getElem?_eq_some_iff.1 h3).1, (World.putObj_heap_other (by omega)).trans (hk.same _ _ (Nat.le_refl _) dU rfl), (r0U.trans hz).trans ⟨gZ.size, fun k o hk h => (gZ.block k (Array.getElem?_eq_some_iff.1 h).1 (fun e => by injection e; omega)).trans h⟩⟩
        rintro e a3 Z hp
        cases e with
        | normal =>
          obtain ⟨k1, k2, k3, k4⟩ := hp
          obtain ⟨r1, r2, r3, r4, r5⟩ := fin none Z k1 k2
          have gZ := grownBy_putObj' Z (m + 1) (at_ .ready none)
          have bZ : Below m Z (Z.putObj (m + 1) (at_ .ready none)) := (Below.refl m Z).grown gZ (by have := k1.size; have := gU.size; omega) (fun r e => by cases e; omega)
          exact ⟨_, _, r1, .inl ⟨rfl, ⟨hfar _ _ _ k4 bZ (softN_put gZ (by omega) ⟨_, r2, by rw [hat]; rfl⟩), r3, r4⟩, r5, ((bU.mono (by omega)).trans k3).trans (bZ.mono (by omega))⟩⟩
        | ret =>
          obtain ⟨k1, k2, k3⟩ := hp
          obtain ⟨r1, r2, r3, r4, r5⟩ := fin (some .ret) Z k1 k2
          exact ⟨_, _, r1, .inr ⟨rfl, ⟨hfarx .ret _ _ _ _ k3 (grownBy_putObj' Z (m + 1) _) (fun r e => by cases e; exact ⟨by omega, .inl ⟨_, r2, by rw [hat]; rfl⟩⟩), r3, r4⟩, r5⟩⟩
        | exit id => exact hp.elim
        | goto t => exact hp.elim
        | panic ch => exact hp.elim
        | outgrown => exact hp.elim
    refine (callsIn_wide.2 (callsIn_wide.1 (namings_in h1 hn V (by omega) (by omega) hnbV (by omega) hO ⟨iV, rV, dV⟩))).mono ?_
    rintro e Z ⟨⟨v, rfl⟩, (⟨hi, hl, hd⟩ | ⟨xs, ⟨hi, hl, hd⟩, hpre⟩)⟩
    · have hl' := hl
      rw [hat] at hl'
      have gZ := grownBy_putObj' Z (m + 1) (.loop { state := .exhausted, pending := none, fn, tmps := a.tmps, params := ps, assign, body, defers := m })
      exact ⟨none, _, run_endLoop (P := Tryd.prog) hl' (by simp), hdone m _ (Nat.le_refl _) (hfar _ _ _ hi ((Below.refl m Z).grown gZ (by have := (Array.getElem?_eq_some_iff.1 hl).1; omega) (fun r e => by cases e; omega)) (softN_put gZ (by omega) ⟨_, hl, by rw [hat]; rfl⟩)) ((World.putObj_heap_other (by omega)).trans hd)⟩
    · have hl' := hl
      rw [hat] at hl'
      exact ⟨some .ret, _, run_endLoop (P := Tryd.prog) hl' (by simp), hstop m xs _ (Nat.le_refl _) hpre (hfarx .ret _ _ _ _ hi (grownBy_putObj' Z (m + 1) _) (fun r e => by cases e; exact ⟨by omega, .inl ⟨_, hl, by rw [hat]; rfl⟩⟩)) ((World.putObj_heap_other (by omega)).trans hd)⟩
/-- **The same, where nothing is told of lists made in rounds.** -/
theorem wpIn_names {N n nb fx fid : Nat} {fcap : Array Value} {fit : List (List Nat) → List Nat → Bool} {g : Operand} {ps : Array Tmp} {assign body : Code} {Q : Exit → Act → World → Prop} {a : Act} {w : World}
    (h1 : 1 ≤ n) (hn : n ≤ 6) (h2 : 2 ≤ w.heap.size) (hps : ps.size = 1) (hfx : fx < w.heap.size) (hnb : w.cell? ⟨nb, 0, none⟩ = some (.int .i64 n)) (hnl : nb < w.heap.size)
    (hg : a.eval g = .func (.func 130) #[] #[.pointer (some ⟨nb, 0, none⟩), .pointer (some ⟨fx, 0, none⟩)])
    (I : List (List Nat) → World → Prop) (Ix : Code → List (List Nat) → World → Prop)
    (hfar : ∀ s X Y, I s X → Below w.heap.size X Y → I s Y)
    (hfarx : ∀ c s X Y row, Ix c s X → X.grownBy Y row → (∀ r, row = some r → w.heap.size ≤ r ∧ ((∃ o : Obj, X.heap[r]? = some o ∧ o.isCells = false) ∨ ∃ v, Boxed X r 4 v)) → Ix c s Y)
    (hbox : ∀ s X, I s X → Boxed X fx 38 (.func (.func fid) #[] fcap)) (htab : ∀ s X, I s X → Tab X) (hen : ∀ args w, (callFunc fid args).run Tryd.prog w = .ok (.enter fid args) w)
    (hask : ∀ acc P v W, I acc W → Row W w.heap.size v (ints P) → 1 ≤ P.length → P.length ≤ n → (∀ x ∈ P, x < n) → Calls Tryd.prog fid (#[v] ++ fcap) W fun e W' => e = .returned (.bool (fit acc P)) ∧ Below W.heap.size W W')
    (h0 : I [] w) (a₁ : Value → Act)
    (hassign : ∀ (l : Nat) (v : Value) (W : World) (K : Act → World → Prop), K (a₁ v) W → assign.wpIn (Fence.wide.inRound l) 8 Tryd.prog (Exit.then K (fun _ _ _ => False)) { tmps := (ps.zip #[v]).foldl (fun t (p, v) => t.setIfInBounds p v) a.tmps, defers := [] } W)
    (hbody : ∀ (l : Nat) (acc : List (List Nat)) (P : List Nat) (v : Value) (W : World), I acc W → Row W w.heap.size v (ints P) → P.length = n → (∀ x ∈ P, x < n) → body.wpIn (Fence.wide.inRound l) 8 Tryd.prog (namePost w.heap.size I Ix (acc ++ [P]) W) (a₁ v) W)
    (hdone : ∀ (D : Nat) (W : World), w.heap.size ≤ D → I (allNames fit n) W → W.heap[D]? = some (.deferred (some [])) → Q .normal { a with defers := { target := .collected D, args := #[] } :: a.defers } W)
    (hstop : ∀ (D : Nat) (xs : List (List Nat)) (W : World), w.heap.size ≤ D → xs <+: allNames fit n → Ix .ret xs W → W.heap[D]? = some (.deferred (some [])) → Code.ret.wpIn Fence.wide N Tryd.prog Q { a with defers := { target := .collected D, args := #[] } :: a.defers } W) :
    (Code.rangeFunc g ps assign body).wpIn Fence.wide N Tryd.prog Q a w := by
  exact wpIn_namesS h1 hn h2 hps hfx hnb hnl hg I Ix (fun s X Y h hb _ => hfar s X Y h hb) hfarx hbox htab hen hask h0 a₁ hassign (fun l acc P v W _ => hbody l acc P v W) hdone hstop
end Go.Proofs.YtcemhepojjbcgaaDoor

/- Whether a beginning of names fits two graphs; the names that make one the other one. Plain mathematics. -/



namespace Go.Proofs.YtcemhepojjbcgaaDoor
open Go.RowKit
set_option linter.unusedVariables false
set_option maxRecDepth 100000

def okAt (L M : List Int) (P : List Nat) (v : Nat) : Bool := bt L v (P.length - 1) == bt M (at_ P v) (at_ P (P.length - 1))
def fitB (L M : List Int) (P : List Nat) : Bool := (List.range (P.length - 1)).all (okAt L M P)
theorem fit_of {L M : List Int} {P : List Nat} (h : ∀ v, v < P.length - 1 → okAt L M P v = true) : fitB L M P = true := List.all_eq_true.2 fun v hv => h v (List.mem_range.1 hv)
theorem fit_not {L M : List Int} {P : List Nat} {v : Nat} (hv : v < P.length - 1) (h : okAt L M P v = false) : fitB L M P = false := by
  cases e : fitB L M P with
  | false => rfl
  | true =>
    have := List.all_eq_true.1 e v (List.mem_range.2 hv)
    rw [h] at this
    cases this
def likeL (L M : List Int) : List (List Nat) := allNames (fun _ P => fitB L M P) L.length
end Go.Proofs.YtcemhepojjbcgaaDoor

/- Whether a beginning of names fits two graphs; namings hands out its iterator. -/







namespace Go.Proofs.YtcemhepojjbcgaaDoor
open Go.RowKit Go.Shelf
attribute [local go_sem] Oper.semAt_some
set_option linter.unusedVariables false
set_option maxRecDepth 100000

theorem seen_at {W : World} {b o k : Nat} {xs : List Int} (h : Seen W (some ⟨b, o, none⟩) xs) (hk : k < xs.length) : W.cell? ⟨b, o + k, none⟩ = some (.int .i64 (xs[k]?.getD 0)) := by
  obtain ⟨b2, o2, e1, _, hc⟩ := h k hk
  obtain ⟨rfl, rfl⟩ : b = b2 ∧ o = o2 := by injection e1 with e; injection e with e1 e2; exact ⟨e1, e2⟩
  exact hc

theorem bits_eq {u t : Nat} (hu : u < 2) (ht : t < 2) : (u == t) = ((u == 1) == (t == 1)) := by
  have h1 : u = 0 ∨ u = 1 := by omega
  have h2 : t = 0 ∨ t = 1 := by omega
  rcases h1 with rfl | rfl <;> rcases h2 with rfl | rfl <;> rfl
theorem namings_any (n fid : Nat) (cap : Array Value) (w : World) : Calls Tryd.prog 113 #[.int .i64 n, .func (.func fid) #[] cap] w fun e w' =>
    e = .returned (.func (.func 130) #[] #[.pointer (some ⟨w.heap.size, 0, none⟩), .pointer (some ⟨w.heap.size + 1, 0, none⟩)]) ∧ (w.alloc (.cells #[.int .i64 n] 3)).alloc (.cells #[.func (.func fid) #[] cap] 38) = w' := by
  have hmf : ∀ (fn : Fn) (first cap : Array Value) (w : World), (Instr.makeFunc fn first cap).run Tryd.prog w = .ok (.func fn first cap) w := fun _ _ _ _ => rfl
  go_enter Tryd.func113, Tryd.ntmps113
  go_wp2
  go_ret
  exact ⟨rfl, rfl⟩
end Go.Proofs.YtcemhepojjbcgaaDoor

/- likenesses hands out its iterator. -/

namespace Go.Proofs.YtcemhepojjbcgaaDoor
open Go.RowKit Go.Shelf
attribute [local go_sem] Oper.semAt_some
set_option linter.unusedVariables false
set_option maxRecDepth 100000

theorem likenesses_any (A A' : Option Addr) (n n' c c' : Nat) (w : World) : Calls Tryd.prog 102 #[.slice A n c, .slice A' n' c'] w fun e w' =>
    e = .returned (.func (.func 130) #[] #[.pointer (some ⟨w.heap.size + 1 + 1, 0, none⟩), .pointer (some ⟨w.heap.size + 1 + 1 + 1, 0, none⟩)]) ∧
    (((w.alloc (.cells #[.slice A n c] 41)).alloc (.cells #[.slice A' n' c'] 41)).alloc (.cells #[.int .i64 n] 3)).alloc (.cells #[.func (.func 125) #[] #[.pointer (some ⟨w.heap.size, 0, none⟩), .pointer (some ⟨w.heap.size + 1, 0, none⟩)]] 38) = w' := by
  have hmf : ∀ (fn : Fn) (first cap : Array Value) (w : World), (Instr.makeFunc fn first cap).run Tryd.prog w = .ok (.func fn first cap) w := fun _ _ _ _ => rfl
  go_enter Tryd.func102, Tryd.ntmps102
  go_wp2_with fail
  refine (namings_any _ _ _ _).mono ?_
  rintro e w' ⟨rfl, rfl⟩
  go_wp2
  go_ret
  exact ⟨rfl, rfl⟩
end Go.Proofs.YtcemhepojjbcgaaDoor

/- slices.Clone of a list of numbers. -/


namespace Go.Proofs.YtcemhepojjbcgaaDoor
open Go.RowKit Go.Shelf
attribute [local go_sem] Oper.semAt_some
set_option linter.unusedVariables false
set_option maxRecDepth 100000

theorem clone_any (B : Nat) (v : Value) (xs : List Int) (h0 : 0 < xs.length) (hl : xs.length ≤ 1000) (w : World) (hr : Row w B v xs) : Calls Tryd.prog 103 #[v] w (Gave w xs) := by
  obtain ⟨A, c, rfl, hs⟩ := hr.seen
  obtain ⟨b, o, hA, _, _⟩ := hs 0 h0
  subst hA
  have HS := Lib.hid hs
  have R0 := Lib.hid (World.ownsRow_lit (base := w.heap.size) (e := 3) (size := 1) w #[] 0 (Nat.le_refl _) (by unfold maxLen; omega) rfl)
  have B0 := Lib.hid ((Below.refl w.heap.size w).alloc (Nat.le_refl _) (.cells #[] 3))
  have he : ∀ w : World, (binOp .eql 23 (.slice (some ⟨b, o, none⟩) xs.length c) (.slice none 0 0)).run Tryd.prog w = .ok (.bool false) w := fun _ => rfl
  clear hs hr
  go_enter Tryd.func103, Tryd.ntmps103
  go_wp2_with (at_builtin; refine append_list rfl (.tmp 5) (.tmp 6) rfl (w.alloc (.cells #[] 3)) w.heap.size (.slice (some ⟨w.heap.size, 0, none⟩) 0 0) [] xs (some ⟨b, o, none⟩) c rfl rfl R0.out (HS.out.below B0.out) h0 B0.out.size (by simp; omega) ?_; intro v' w' hr' hb')
  go_ret
  exact ⟨v', rfl, by have h := hr'.out; rw [List.nil_append] at h; exact h, B0.out.trans hb'.out⟩
end Go.Proofs.YtcemhepojjbcgaaDoor

/- Whether a beginning of names fits two graphs: the closure of likenesses. -/






namespace Go.Proofs.YtcemhepojjbcgaaDoor
open Go.RowKit Go.Shelf
set_option linter.unusedVariables false

set_option maxHeartbeats 2000000 in
set_option maxRecDepth 100000 in
theorem likes_any (A A' : Option Addr) (c c' gx hx n B : Nat) (L M : List Int) (hL : IsGraph L) (hM : IsGraph M) (hn : n = L.length) (hm : n = M.length) (P : List Nat) (v : Value) (W : World) (hr : Row W B v (ints P)) (h1 : 1 ≤ P.length) (h2 : P.length ≤ n) (hP : ∀ x ∈ P, x < n)
    (bg : Boxed W gx 41 (.slice A n c)) (bh : Boxed W hx 41 (.slice A' n c')) (sL : Seen W A L) (sM : Seen W A' M) :
    Calls Tryd.prog 125 #[v, .pointer (some ⟨gx, 0, none⟩), .pointer (some ⟨hx, 0, none⟩)] W fun e W' => e = .returned (.bool (fitB L M P)) ∧ Below W.heap.size W W' := by
  have hn6 : n ≤ 6 := by rw [hn]; exact hL.2.1
  obtain ⟨Ap, cp, rfl, sP⟩ := hr.seen
  rw [ints_length]
  obtain ⟨blk, off, hA0, hbl0, _⟩ := sL 0 (by have := hL.1; omega)
  obtain ⟨blk', off', hA0', hbl0', _⟩ := sM 0 (by have := hM.1; omega)
  subst hA0
  subst hA0'
  obtain ⟨d, ed⟩ : ∃ d, d = P.length := ⟨_, rfl⟩
  obtain ⟨bp, op, hAp, hblp, _⟩ := sP 0 (by rw [ints_length]; omega)
  subst hAp
  rw [← ed] at h1 h2 ⊢
  obtain ⟨q, eq⟩ : ∃ q, d = q + 1 := ⟨d - 1, by omega⟩
  have hq : P.length - 1 = q := by omega
  have hds : ((d : Nat) : Int) - 1 = (q : Int) := by omega
  have hqd : (0 : Int) ≤ (q : Int) ∧ (q : Int) ≤ (cp : Int) := by
    refine ⟨by omega, ?_⟩
    rcases hr.2 with ⟨h0, _⟩ | ⟨g, cap, cur, h0, _, _, h3, _⟩
    · cases h0
    · injection h0 with e1 e2 e3
      rw [ints_length] at h3
      omega
  have hqc : q ≤ cp := by omega
  have HL := Lib.hid hL
  have HM := Lib.hid hM
  have HN := Lib.hid hn
  have HMM := Lib.hid hm
  have HP := Lib.hid hP
  have SL := Lib.hid sL
  have SM := Lib.hid sM
  have SP := Lib.hid sP
  have BG := Lib.hid bg
  have BH := Lib.hid bh
  have ED := Lib.hid ed
  have HQ := Lib.hid hq
  have EQ := Lib.hid eq
  clear hL hM hn hm hP sL sM sP bg bh hr ed hq eq
  go_enter Tryd.func125, Tryd.ntmps125
  go_wp2
  go_loopw [15] (fun i wr => ∃ k : Nat, k ≤ q ∧ i = .int .i64 k ∧ Hid (∀ v, v < k → okAt L M P v = true) ∧ Hid (Below W.heap.size W wr)) (fun i _ => q - (intOf i).toNat)
  case atStart => exact ⟨0, Nat.zero_le _, rfl, Lib.hid (fun v hv => absurd hv (by omega)), Lib.hid (Below.refl _ _)⟩
  case round =>
    obtain ⟨k, hk, rfl, hok, hb⟩ := hrel
    by_cases hlt : k < q
    · have hkP : k < P.length := by have := ED.out; have := EQ.out; omega
      have hqP : q < P.length := by have := ED.out; have := EQ.out; omega
      have hak := at_lt HP.out hkP
      have haq := at_lt HP.out hqP
      have hcP := seen_at SP.out (k := k) (by rw [ints_length]; exact hkP)
      have hcQ := seen_at SP.out (k := q) (by rw [ints_length]; exact hqP)
      rw [ints_at hkP] at hcP
      rw [ints_at hqP] at hcQ
      obtain ⟨a, ea⟩ : ∃ a, a = at_ P k := ⟨_, rfl⟩
      obtain ⟨b, eb⟩ : ∃ b, b = at_ P q := ⟨_, rfl⟩
      rw [← ea] at hak hcP
      rw [← eb] at haq hcQ
      have hkL : k < L.length := by have := HN.out; omega
      have haM : a < M.length := by have := HMM.out; omega
      have hinL := (HL.out.2.2 k hkL).1
      have hinM := (HM.out.2.2 a haM).1
      have hX := ent_int hinL
      have hY := ent_int hinM
      have hXl := ent_lt hinL
      have hYl := ent_lt hinM
      have h64 := two_le HL.out.2.1
      have h64' := two_le HM.out.2.1
      have hcL := seen_at SL.out hkL
      have hcM := seen_at SM.out haM
      have hst : okAt L M P k = (ent L k / 2 ^ q % 2 == ent M a / 2 ^ b % 2) := by unfold okAt bt; rw [HQ.out, ← ea, ← eb]
      obtain ⟨X, eX⟩ : ∃ X, X = ent L k := ⟨_, rfl⟩
      obtain ⟨Y, eY⟩ : ∃ Y, Y = ent M a := ⟨_, rfl⟩
      rw [← eX] at hX hXl hst
      rw [← eY] at hY hYl hst
      rw [hX] at hcL
      rw [hY] at hcM
      have bb := hb.out
      have rP : wr.cell? ⟨bp, op + k, none⟩ = some (.int .i64 a) := (bb.cell (p := ⟨bp, op + k, none⟩) hblp).trans hcP
      have rQ : wr.cell? ⟨bp, op + q, none⟩ = some (.int .i64 b) := (bb.cell (p := ⟨bp, op + q, none⟩) hblp).trans hcQ
      have rL : wr.drew.cell? ⟨blk, off + k, none⟩ = some (.int .i64 X) := (bb.cell (p := ⟨blk, off + k, none⟩) hbl0).trans hcL
      have rM : wr.drew.cell? ⟨blk', off' + a, none⟩ = some (.int .i64 Y) := (bb.cell (p := ⟨blk', off' + a, none⟩) hbl0').trans hcM
      have rg := ((bb.block gx BG.out.lt).trans BG.out : wr.heap[gx]? = _)
      have rh := ((bb.block hx BH.out.lt).trans BH.out : wr.heap[hx]? = _)
      have zg := (show Boxed wr gx 41 (.slice (some ⟨blk, off, none⟩) n c) from rg).cell
      have zh := (show Boxed wr hx 41 (.slice (some ⟨blk', off', none⟩) n c') from rh).cell
      have hkd : (0 : Int) ≤ (k : Int) ∧ (k : Int) < (q : Int) := by omega
      have hqd2 : (0 : Int) ≤ (q : Int) ∧ (q : Int) < (d : Int) := by have := EQ.out; omega
      have hXs : X < 1048576 := by omega
      have hYs : Y < 1048576 := by omega
      have hkn : k < n := by have := HN.out; omega
      have han : a < n := hak
      have hq40 : q < 40 := by have := EQ.out; omega
      have hb40 : b < 40 := by omega
      have E1 := Lib.hid (edge_any blk off n c k q X wr.drew hXs hkn hq40 rL)
      have E2 := Lib.hid (edge_any blk' off' n c' a b Y wr.drew hYs han hb40 rM)
      have HST := Lib.hid hst
      have hbd := Lib.hid bb.drew
      obtain ⟨x1, ex1⟩ : ∃ x1 : Bool, x1 = (X / 2 ^ q % 2 == 1) := ⟨_, rfl⟩
      obtain ⟨x2, ex2⟩ : ∃ x2 : Bool, x2 = (Y / 2 ^ b % 2 == 1) := ⟨_, rfl⟩
      rw [← ex1] at E1
      rw [← ex2] at E2
      have hiff : okAt L M P k = (x1 == x2) := by
        rw [hst, ex1, ex2]
        exact bits_eq (Nat.mod_lt _ (by omega)) (Nat.mod_lt _ (by omega))
      have HIFF := Lib.hid hiff
      clear hst hiff ex1 ex2 eX eY ea eb hcP hcQ hcL hcM hX hY hXl hYl h64 h64' hinL hinM rL rM rg rh hb bb
      go_wp2
      refine wp_region_still_lit (by kernel_rfl) (by kernel_rfl) ?_
      still_step
      still_step
      still_step
      still_call (E1.out.mono fun e w' ⟨he, hw⟩ => ⟨he, hw.symm⟩)
      still_step
      still_step
      still_step
      still_step
      still_step
      still_step
      still_call (E2.out.mono fun e w' ⟨he, hw⟩ => ⟨he, hw.symm⟩)
      clear E1 E2
      cases x1 <;> cases x2
      all_goals
        repeat still_step
        refine wpStill_nil ?_
      · have hok2 := Lib.hid (show okAt L M P k = true by rw [HIFF.out]; rfl)
        clear zg zh rP rQ
        go_wp2
        go_roundw
        case rel => exact ⟨k + 1, by omega, by go_num, Lib.hid (fun v hv => by
          rcases Nat.lt_succ_iff_lt_or_eq.1 hv with h | h
          · exact hok.out v h
          · rw [h]; exact hok2.out), hbd⟩
        case measure => simp [intOf]; omega
      · have hok2 := Lib.hid (fit_not (P := P) (by rw [HQ.out]; exact hlt) (show okAt L M P k = false by rw [HIFF.out]; rfl))
        clear zg zh rP rQ
        go_wp2
        go_ret
        exact ⟨ret_bool hok2.out.symm, hbd.out⟩
      · have hok2 := Lib.hid (fit_not (P := P) (by rw [HQ.out]; exact hlt) (show okAt L M P k = false by rw [HIFF.out]; rfl))
        clear zg zh rP rQ
        go_wp2
        go_ret
        exact ⟨ret_bool hok2.out.symm, hbd.out⟩
      · have hok2 := Lib.hid (show okAt L M P k = true by rw [HIFF.out]; rfl)
        clear zg zh rP rQ
        go_wp2
        go_roundw
        case rel => exact ⟨k + 1, by omega, by go_num, Lib.hid (fun v hv => by
          rcases Nat.lt_succ_iff_lt_or_eq.1 hv with h | h
          · exact hok.out v h
          · rw [h]; exact hok2.out), hbd⟩
        case measure => simp [intOf]; omega
    · have hkq : k = q := by omega
      have hok2 := Lib.hid (fit_of (L := L) (M := M) (P := P) (fun v hv => hok.out v (by rw [HQ.out] at hv; omega)))
      have hbd := Lib.hid hb.out
      clear hb hok
      subst hkq
      go_wp2
      go_ret
      exact ⟨ret_bool hok2.out.symm, hbd.out⟩

end Go.Proofs.YtcemhepojjbcgaaDoor

/- The first names that make one graph another one: firstLikeness. -/






namespace Go.Proofs.YtcemhepojjbcgaaDoor
open Go.RowKit Go.Shelf
attribute [local go_sem] Oper.semAt_some
set_option linter.unusedVariables false
set_option maxRecDepth 100000

def FiI (n s0 : Nat) (A A' : Option Addr) (c c' : Nat) (w : World) (acc : List (List Nat)) (Z : World) : Prop :=
  acc = [] ∧ Boxed Z s0 23 (.slice none 0 0) ∧ Boxed Z (s0 + 1) 4 (.bool false) ∧ Boxed Z (s0 + 1 + 1) 41 (.slice A n c) ∧ Boxed Z (s0 + 1 + 1 + 1) 41 (.slice A' n c') ∧
    Boxed Z (s0 + 1 + 1 + 1 + 1 + 1) 38 (.func (.func 125) #[] #[.pointer (some ⟨s0 + 1 + 1, 0, none⟩), .pointer (some ⟨s0 + 1 + 1 + 1, 0, none⟩)]) ∧ Below s0 w Z
def FiX (s0 : Nat) (w : World) (cd : Code) (xs : List (List Nat)) (Z : World) : Prop :=
  cd = .ret ∧ ∃ P v, xs = [P] ∧ Boxed Z s0 23 v ∧ Row Z s0 v (ints P) ∧ Boxed Z (s0 + 1) 4 (.bool true) ∧ Below s0 w Z

/-- How firstLikeness ends. -/
def FirstR (w : World) (Ls : List (List Nat)) (e : Ending) (w' : World) : Prop :=
  match Ls with
  | [] => Told w [] false e w'
  | P :: _ => Told w (ints P) true e w'

set_option maxRecDepth 100000 in
set_option maxHeartbeats 4000000 in
theorem firstLike_in (A A' : Option Addr) (c c' : Nat) (L M : List Int) (hL : IsGraph L) (hM : IsGraph M) (hlm : L.length = M.length) (w : World) (sL : Seen w A L) (sM : Seen w A' M) (hT : Tab w) :
    CallsIn Fence.wide 12 Tryd.prog 65 #[.slice A L.length c, .slice A' M.length c'] w (FirstR w (likeL L M)) := by
  have h1 := hL.1
  have h6 := hL.2.1
  have h2 := hT.lt
  obtain ⟨n, hn⟩ : ∃ n, n = L.length := ⟨_, rfl⟩
  have hm : n = M.length := by rw [hn, hlm]
  have hdef : likeL L M = allNames (fun _ P => fitB L M P) n := by rw [hn]; rfl
  rw [hdef]
  rw [← hm, ← hn]
  rw [← hn] at h1 h6
  have HL := Lib.hid hL
  have HM := Lib.hid hM
  have HN := Lib.hid hn
  have HMM := Lib.hid hm
  have SL := Lib.hid sL
  have SM := Lib.hid sM
  have HT := Lib.hid hT
  clear hL hM hn hm sL sM hT hlm hdef
  refine callsIn_of_wp_marks Tryd.func65 rfl trivial ?_ rfl
  simp only [Tryd.ntmps65, List.size_toArray, List.length_cons, List.length_nil, Nat.reduceAdd, Nat.reduceSub, Array.replicate_succ, Array.replicate_zero, List.push_toArray, List.append_toArray, List.nil_append, List.cons_append]
  gi_wp2_with (refine ⟨trivial, ?_⟩; gi_at_call 102; refine (callsIn_wide.2 (likenesses_any _ _ _ _ _ _ _)).mono ?_; rintro e w' ⟨rfl, rfl⟩)
  obtain ⟨s0, es0⟩ : ∃ s0, s0 = w.heap.size := ⟨_, rfl⟩
  rw [← es0]
  obtain ⟨W, eW⟩ : ∃ W, W = (((((w.alloc (.cells #[.slice none 0 0] 23)).alloc (.cells #[.bool false] 4)).alloc (.cells #[.slice A n c] 41)).alloc (.cells #[.slice A' n c'] 41)).alloc (.cells #[.int .i64 n] 3)).alloc (.cells #[(.func (.func 125) #[] #[.pointer (some ⟨s0 + 1 + 1, 0, none⟩), .pointer (some ⟨s0 + 1 + 1 + 1, 0, none⟩)])] 38) := ⟨_, rfl⟩
  have sW : W.heap.size = s0 + 6 := by rw [eW, es0]; simp
  have hBW : Below s0 w W := by
    rw [eW, es0]
    refine Below.alloc (Below.alloc (Below.alloc (Below.alloc (Below.alloc (Below.alloc (Below.refl _ w) (Nat.le_refl _) _) ?_ _) ?_ _) ?_ _) ?_ _) ?_ _ <;> (simp <;> omega)
  have b0 : Boxed W s0 23 (.slice none 0 0) := by rw [eW, es0]; exact (((((Boxed.new w _ _).alloc _).alloc _).alloc _).alloc _).alloc _
  have b1 : Boxed W (s0 + 1) 4 (.bool false) := by
    rw [eW, es0]; have h := Boxed.new (w.alloc (.cells #[.slice none 0 0] 23)) 4 (.bool false); rw [World.size_alloc] at h; exact (((h.alloc _).alloc _).alloc _).alloc _
  have b2 : Boxed W (s0 + 1 + 1) 41 (.slice A n c) := by
    rw [eW, es0]; have h := Boxed.new ((w.alloc (.cells #[.slice none 0 0] 23)).alloc (.cells #[.bool false] 4)) 41 (.slice A n c); rw [World.size_alloc, World.size_alloc] at h; exact ((h.alloc _).alloc _).alloc _
  have b3 : Boxed W (s0 + 1 + 1 + 1) 41 (.slice A' n c') := by
    rw [eW, es0]; have h := Boxed.new (((w.alloc (.cells #[.slice none 0 0] 23)).alloc (.cells #[.bool false] 4)).alloc (.cells #[.slice A n c] 41)) 41 (.slice A' n c'); rw [World.size_alloc, World.size_alloc, World.size_alloc] at h; exact (h.alloc _).alloc _
  have b4 : Boxed W (s0 + 1 + 1 + 1 + 1) 3 (.int .i64 n) := by
    rw [eW, es0]; have h := Boxed.new ((((w.alloc (.cells #[.slice none 0 0] 23)).alloc (.cells #[.bool false] 4)).alloc (.cells #[.slice A n c] 41)).alloc (.cells #[.slice A' n c'] 41)) 3 (.int .i64 n); rw [World.size_alloc, World.size_alloc, World.size_alloc, World.size_alloc] at h; exact h.alloc _
  have b5 : Boxed W (s0 + 1 + 1 + 1 + 1 + 1) 38 (.func (.func 125) #[] #[.pointer (some ⟨s0 + 1 + 1, 0, none⟩), .pointer (some ⟨s0 + 1 + 1 + 1, 0, none⟩)]) := by
    rw [eW, es0]; have h := Boxed.new (((((w.alloc (.cells #[.slice none 0 0] 23)).alloc (.cells #[.bool false] 4)).alloc (.cells #[.slice A n c] 41)).alloc (.cells #[.slice A' n c'] 41)).alloc (.cells #[.int .i64 n] 3)) 38 (.func (.func 125) #[] #[.pointer (some ⟨w.heap.size + 1 + 1, 0, none⟩), .pointer (some ⟨w.heap.size + 1 + 1 + 1, 0, none⟩)]); rw [World.size_alloc, World.size_alloc, World.size_alloc, World.size_alloc, World.size_alloc] at h; exact h
  rw [← eW]
  have ES := Lib.hid es0
  have SW := Lib.hid sW
  have hle : s0 ≤ w.heap.size := by omega
  have h2s : 2 ≤ s0 := by omega
  clear eW es0 sW h2
  refine wpIn_names (n := n) (nb := s0 + 1 + 1 + 1 + 1) (fx := s0 + 1 + 1 + 1 + 1 + 1) (fid := 125) (fcap := #[.pointer (some ⟨s0 + 1 + 1, 0, none⟩), .pointer (some ⟨s0 + 1 + 1 + 1, 0, none⟩)]) (fit := fun _ P => fitB L M P)
    h1 h6 (by have := SW.out; omega) rfl (by have := SW.out; omega) b4.cell b4.lt rfl (FiI n s0 A A' c c' w) (FiX s0 w) ?far ?farx (fun s X h => h.2.2.2.2.2.1) (fun s X h => HT.out.below h.2.2.2.2.2.2 (by omega)) (enters_of Tryd.func125 (by kernel_rfl) rfl)
    ?asks ⟨rfl, b0, b1, b2, b3, b5, hBW⟩
    (fun v => { tmps := #[.slice A n c, .slice A' n c', undef, undef, .pointer (some ⟨s0, 0, none⟩), .pointer (some ⟨s0 + 1, 0, none⟩), v, .slice A n c, .int .i64 n, .slice A' n c', .int .i64 n, .bool false, .slice A n c, .slice A' n c',
      .func (.func 130) #[] #[.pointer (some ⟨s0 + 1 + 1 + 1 + 1, 0, none⟩), .pointer (some ⟨s0 + 1 + 1 + 1 + 1 + 1, 0, none⟩)], v, undef, undef], defers := [] }) ?assign ?body ?done ?stop
  case far =>
    rintro acc X Y ⟨q0, q1, q2, q3, q4, q5, q6⟩ hb
    have hs := SW.out
    refine ⟨q0, (hb.block _ (by omega)).trans q1, (hb.block _ (by omega)).trans q2, (hb.block _ (by omega)).trans q3, (hb.block _ (by omega)).trans q4, (hb.block _ (by omega)).trans q5, q6.trans (hb.mono (by omega))⟩
  case farx =>
    rintro cd xs X Y row ⟨q0, P, v, q1, q2, q3, q4, q5⟩ hg hr
    have hs := SW.out
    refine ⟨q0, P, v, q1, q2.kept hg (fun e => by have := (hr _ e.symm).1; omega), ?_, q4.kept hg (fun e => by have := (hr _ e.symm).1; omega), q5.grown hg (by have := q5.size; omega) (fun r e => by have := (hr r e).1; omega)⟩
    refine World.ownsRow.kept q3 hg ?_
    rcases q3.2 with ⟨rfl, _⟩ | ⟨g, cap, cur, rfl, _, hgb, _⟩
    · exact .inl rfl
    · refine .inr fun e => ?_
      have e2 : row = some g := e.symm
      obtain ⟨_, h⟩ := hr g e2
      rcases h with ⟨o, ho, hc⟩ | ⟨u, hu⟩
      · rw [hgb] at ho; cases ho; cases hc
      · have h3 : X.heap[g]? = some (.cells #[u] 4 (0, 0)) := hu
        rw [hgb] at h3
        injection h3 with h3
        injection h3 with _ h4
        exact absurd h4 (by decide)
  case asks =>
    rintro acc P v Z ⟨q0, q1, q2, q3, q4, q5, q6⟩ hr p1 p2 p3
    exact likes_any A A' c c' (s0 + 1 + 1) (s0 + 1 + 1 + 1) n W.heap.size L M HL.out HM.out HN.out HMM.out P v Z hr p1 p2 p3 q3 q4 (SL.out.below (by rw [← ES.out]; exact q6)) (SM.out.below (by rw [← ES.out]; exact q6))
  case assign =>
    intro l v Z K hK
    gi_wp2
    exact hK
  case body =>
    rintro l acc P v Z ⟨q0, q1, q2, q3, q4, q5, q6⟩ hr p1 p2
    subst q0
    have hs := SW.out
    have hZ := q6.size
    have hZW : W.heap.size ≤ Z.heap.size := by have := q5.lt; omega
    have hcl := clone_any W.heap.size v (ints P) (by rw [ints_length]; omega) (by rw [ints_length]; omega) Z hr
    have HCL := Lib.hid hcl
    have Q1 := Lib.hid q1
    have Q2 := Lib.hid q2
    have Q6 := Lib.hid q6
    have P1 := Lib.hid p1
    clear hcl q1 q2 q3 q4 q5 q6 hr p1 p2 b0 b1 b2 b3 b4 b5 hBW hs
    gi_wp2_with (refine ⟨trivial, ?_⟩; gi_at_call 103; refine (CallsIn.inRound l (callsIn_wide.2 HCL.out)).mono ?_; rintro e Z1 ⟨u, rfl, hu, hb⟩
                 have r1 : Boxed Z1 s0 23 (.slice none 0 0) := (hb.block s0 Q1.out.lt).trans Q1.out
                 have r2 : Boxed Z1 (s0 + 1) 4 (.bool false) := (hb.block (s0 + 1) Q2.out.lt).trans Q2.out
                 have y1 := r1.cell
                 have y2 := r1.frozen
                 have y3 := r2.cell
                 have y4 := r2.frozen
                 have y5 : ∀ z, (Z1.setCell ⟨s0, 0, none⟩ z).cell? ⟨s0 + 1, 0, none⟩ = some (.bool false) := fun z => (World.cell?_setCell_other _ _ _ _ (by simp)).trans y3
                 have y6 : ∀ z, (Z1.setCell ⟨s0, 0, none⟩ z).frozen? ⟨s0 + 1, 0, none⟩ = false := fun z => (World.frozen?_setCell _ _ _ _).trans y4
                 obtain ⟨g, cap, rfl⟩ : ∃ g cap, u = .slice (some ⟨g, 0, none⟩) n cap := by
                   rcases hu.2 with ⟨_, h0⟩ | ⟨g, cap, cur, rfl, _⟩
                   · rw [ints_length, P1.out] at h0; omega
                   · exact ⟨g, cap, by rw [ints_length, P1.out]⟩
                 have HU := Lib.hid hu
                 have HB := Lib.hid hb
                 have R1 := Lib.hid r1
                 have R2 := Lib.hid r2
                 clear hu hb r1 r2 y3 y4)
    have hs := SW.out
    have g1 := grownBy_setCell' Z1 s0 (.slice (some ⟨g, 0, none⟩) n cap)
    have g2 := grownBy_setCell' (Z1.setCell ⟨s0, 0, none⟩ (.slice (some ⟨g, 0, none⟩) n cap)) (s0 + 1) (.bool true)
    have hgZ : Z.heap.size ≤ g := by
      rcases HU.out.2 with ⟨h0, _⟩ | ⟨g', cap', cur, h0, h3, _⟩
      · cases h0
      · injection h0 with e1; injection e1 with e1; injection e1 with e1; omega
    refine ⟨?_, ?_, rfl, P, .slice (some ⟨g, 0, none⟩) n cap, rfl, (R1.out.set _).kept g2 (fun e => by injection e; omega), ?_, (R2.out.kept g1 (fun e => by injection e; omega)).set _, ?_⟩
    · refine (KeepsFrom.mk (HB.out.size) (fun k o _ h4 _ => (HB.out.block k (Array.getElem?_eq_some_iff.1 h4).1).trans h4)).trans (((KeepsOthers.setCell _ _ _).from _).trans ((KeepsOthers.setCell _ _ _).from _))
    · refine ⟨Nat.le_trans HB.out.size (Nat.le_trans g1.size g2.size), fun k o hk h4 => ?_⟩
      have h5 := (HB.out.block k (Array.getElem?_eq_some_iff.1 h4).1).trans h4
      have h6 := (g1.block k (Array.getElem?_eq_some_iff.1 h5).1 (fun e => by injection e; omega)).trans h5
      exact (g2.block k (Array.getElem?_eq_some_iff.1 h6).1 (fun e => by injection e; omega)).trans h6
    · have h5 := World.ownsRow.kept HU.out g1 (.inr (fun e => by have e2 : some g = some s0 := e; injection e2; omega))
      have h6 := World.ownsRow.kept h5 g2 (.inr (fun e => by have e2 : some g = some (s0 + 1) := e; injection e2; omega))
      exact Row.mono h6 (by omega)
    · exact ((Q6.out.trans (HB.out.mono (by omega))).setCell (p := ⟨s0, 0, none⟩) (Nat.le_refl _) _).setCell (p := ⟨s0 + 1, 0, none⟩) (by show s0 ≤ s0 + 1; omega) _
  case done =>
    rintro D Z hD ⟨q0, q1, q2, q3, q4, q5, q6⟩ hK
    have y1 := q1.cell
    have y2 := q1.frozen
    have y5 : ∀ z, (Z.setCell ⟨s0, 0, none⟩ z).cell? ⟨s0 + 1, 0, none⟩ = some (.bool false) := fun z => (World.cell?_setCell_other _ _ _ _ (by simp)).trans q2.cell
    have y6 : ∀ z, (Z.setCell ⟨s0, 0, none⟩ z).frozen? ⟨s0 + 1, 0, none⟩ = false := fun z => (World.frozen?_setCell _ _ _ _).trans q2.frozen
    have hs := SW.out
    have g1 := grownBy_setCell' Z s0 (.slice none 0 0)
    have g2 := grownBy_setCell' (Z.setCell ⟨s0, 0, none⟩ (.slice none 0 0)) (s0 + 1) (.bool false)
    have k1 := (g1.block D (Array.getElem?_eq_some_iff.1 hK).1 (fun e => by injection e; omega)).trans hK
    have k2 := (g2.block D (Array.getElem?_eq_some_iff.1 k1).1 (fun e => by injection e; omega)).trans k1
    have gD := grownBy_putObj' ((Z.setCell ⟨s0, 0, none⟩ (.slice none 0 0)).setCell ⟨s0 + 1, 0, none⟩ (.bool false)) D (.deferred none)
    have zc0 := ((((q1.set (.slice none 0 0)).kept g2 (fun e => by injection e; omega))).kept gD (fun e => by injection e; omega)).cell
    have zc1 := ((((q2.kept g1 (fun e => by injection e; omega)).set (.bool false))).kept gD (fun e => by injection e; omega)).cell
    have hB : Below s0 w (((Z.setCell ⟨s0, 0, none⟩ (.slice none 0 0)).setCell ⟨s0 + 1, 0, none⟩ (.bool false)).putObj D (.deferred none)) :=
      ((q6.setCell (p := ⟨s0, 0, none⟩) (Nat.le_refl _) _).setCell (p := ⟨s0 + 1, 0, none⟩) (by show s0 ≤ s0 + 1; omega) _).grown gD (by have := q6.size; have := g1.size; have := g2.size; omega) (fun r e => by cases e; omega)
    have K2 := Lib.hid k2
    have Z0 := Lib.hid zc0
    have Z1' := Lib.hid zc1
    have HB := Lib.hid hB
    have Q0 := Lib.hid q0
    clear k1 k2 zc0 zc1 hB q0 g1 g2 gD q1 q2 q3 q4 q5 q6 hK hs b0 b1 b2 b3 b4 b5 hBW
    gi_wp2
    refine ⟨by simp, .inl ⟨_, _, rfl, run_takeDeferred K2.out, ?_⟩⟩
    have zc0 := Z0.out
    have zc1 := Z1'.out
    refine ⟨.tuple #[.slice none 0 0, .bool false], by simp [results, Tryd.f65, go_sem, zc0, zc1], ?_⟩
    rw [Q0.out]
    exact ⟨_, rfl, World.ownsRow_nil _ w.heap.size 3 1, by rw [← ES.out]; exact HB.out⟩
  case stop =>
    rintro D xs Z hD ⟨t, ht⟩ ⟨_, P, v, rfl, q2, q3, q4, q5⟩ hK
    have hs := SW.out
    have gD := grownBy_putObj' Z D (.deferred none)
    have zc0 := (q2.kept gD (fun e => by injection e; omega)).cell
    have zc1 := (q4.kept gD (fun e => by injection e; omega)).cell
    have hr := ownsRow_putObj q3 (.deferred none) hK rfl
    have hB : Below s0 w (Z.putObj D (.deferred none)) := q5.grown gD (by have := q5.size; omega) (fun r e => by cases e; omega)
    clear b0 b1 b2 b3 b4 b5 hBW
    gi_wp2
    refine ⟨by simp, .inl ⟨_, _, rfl, run_takeDeferred hK, ?_⟩⟩
    refine ⟨.tuple #[v, .bool true], by simp [results, Tryd.f65, go_sem, zc0, zc1], ?_⟩
    rw [← ht]
    exact ⟨_, rfl, by rw [← ES.out]; exact hr, by rw [← ES.out]; exact hB⟩

end Go.Proofs.YtcemhepojjbcgaaDoor

/- What firstLikeness tells. -/

namespace Go.Proofs.YtcemhepojjbcgaaDoor
open Go Go.RowKit Go.Shelf
attribute [local go_sem] Oper.semAt_some
set_option linter.unusedVariables false
set_option maxRecDepth 100000

set_option maxHeartbeats 1000000 in
theorem firstLike_len (A A' : Option Addr) (n n' c c' : Nat) (h : n ≠ n') (w : World) :
    CallsIn Fence.wide 12 Tryd.prog 65 #[.slice A n c, .slice A' n' c'] w (Told w [] false) := by
  have X0 := (Boxed.new w 23 (.slice none 0 0)).alloc (.cells #[.bool false] 4)
  have X1 := Boxed.new (w.alloc (.cells #[.slice none 0 0] 23)) 4 (.bool false)
  rw [World.size_alloc] at X1
  have hd : ((n : Int) == (n' : Int)) = false := by simp; omega
  have Y0 := Lib.hid X0
  have Y1 := Lib.hid X1
  have B0 := Lib.hid ((((Below.refl w.heap.size w).alloc (Nat.le_refl _) (.cells #[.slice none 0 0] 23)).alloc (by simp) (.cells #[.bool false] 4)))
  clear h X0 X1
  refine callsIn_of_wp_marks Tryd.func65 rfl trivial ?_ rfl
  simp only [Tryd.ntmps65, List.size_toArray, List.length_cons, List.length_nil, Nat.reduceAdd, Nat.reduceSub, Array.replicate_succ, Array.replicate_zero, List.push_toArray, List.append_toArray, List.nil_append, List.cons_append]
  gi_wp2
  have z0 := Y0.out.cell
  have z1 := Y1.out.cell
  exact ⟨.tuple #[.slice none 0 0, .bool false], by simp [results, Tryd.f65, go_sem, z0, z1], _, rfl, World.ownsRow_nil _ w.heap.size 3 1, B0.out⟩

/-- What AlikeFirst tells of two graphs of as many nodes. -/
def firstL (Ls : List (List Nat)) : List Int := ints (Ls.head?.getD [])
theorem firstR_is {w : World} {Ls : List (List Nat)} {e : Ending} {w' : World} (h : FirstR w Ls e w') : Told w (firstL Ls) (!Ls.isEmpty) e w' := by
  cases Ls with
  | nil => exact h
  | cons P t => exact h
end Go.Proofs.YtcemhepojjbcgaaDoor

/- All names, one node more at a time; those that come to a list by trying. Plain mathematics, no condition. -/


namespace Go.Proofs.YtcemhepojjbcgaaDoor
open Go Go.RowKit
set_option linter.unusedVariables false
set_option maxRecDepth 100000

/-- The names that are left. -/
def left (n : Nat) (P : List Nat) : List Nat := (List.range n).filter fun x => !P.contains x
def ext (n : Nat) (P : List Nat) : List (List Nat) := (left n P).map fun v => P ++ [v]
def extK (n : Nat) : Nat → List (List Nat) → List (List Nat)
  | 0, Ls => Ls
  | k + 1, Ls => extK n k (Ls.flatMap (ext n))
def permsTo (n k : Nat) : List (List Nat) := extK n k [[]]
theorem extK_append (n k : Nat) (A B : List (List Nat)) : extK n k (A ++ B) = extK n k A ++ extK n k B := by
  induction k generalizing A B with
  | zero => rfl
  | succ k ih => unfold extK; rw [List.flatMap_append, ih]
theorem extK_nil (n k : Nat) : extK n k [] = [] := by
  induction k with
  | zero => rfl
  | succ k ih => unfold extK; simpa using ih
theorem extK_flat (n k : Nat) (A : List (List Nat)) : extK n k A = A.flatMap fun P => extK n k [P] := by
  induction A with
  | nil => simp [extK_nil]
  | cons P A ih => rw [show P :: A = [P] ++ A from rfl, extK_append, ih]; simp
theorem extK_succ' (n k : Nat) (A : List (List Nat)) : extK n (k + 1) A = (extK n k A).flatMap (ext n) := by
  induction k generalizing A with
  | zero => rfl
  | succ k ih => show extK n (k + 1) (A.flatMap (ext n)) = _; rw [ih]; rfl
theorem permsTo_succ (n k : Nat) : permsTo n (k + 1) = (permsTo n k).flatMap (ext n) := extK_succ' n k _
theorem mem_left {n : Nat} {P : List Nat} {v : Nat} : v ∈ left n P ↔ v < n ∧ v ∉ P := by simp [left]
theorem left_length (n : Nat) (P : List Nat) : (left n P).length ≤ n := by
  have := List.length_filter_le (fun x => !P.contains x) (List.range n)
  simpa [left] using this
/-- What all of them are. -/
def Names (n k : Nat) (P : List Nat) : Prop := P.length = k ∧ P.Nodup ∧ ∀ x ∈ P, x < n
theorem ext_names {n k : Nat} {P Q : List Nat} (h : Names n k P) (hq : Q ∈ ext n P) : Names n (k + 1) Q := by
  unfold ext at hq
  obtain ⟨v, hv, rfl⟩ := List.mem_map.1 hq
  obtain ⟨h1, h2⟩ := mem_left.1 hv
  refine ⟨by simp [h.1], ?_, ?_⟩
  · rw [List.nodup_append]
    exact ⟨h.2.1, by simp, fun a ha b hb e => h2 (by simp at hb; subst hb; subst e; exact ha)⟩
  · intro x hx
    rcases List.mem_append.1 hx with hx | hx
    · exact h.2.2 x hx
    · rw [List.mem_singleton.1 hx]; exact h1
theorem perms_names (n k : Nat) : ∀ P ∈ permsTo n k, Names n k P := by
  induction k with
  | zero => intro P hP; simp [permsTo, extK] at hP; subst hP; exact ⟨rfl, by simp, by simp⟩
  | succ k ih =>
    intro P hP
    rw [permsTo_succ, List.mem_flatMap] at hP
    obtain ⟨R, hR, hP⟩ := hP
    exact ext_names (ih R hR) hP
theorem ext_length (n : Nat) (P : List Nat) : (ext n P).length ≤ n := by unfold ext; rw [List.length_map]; exact left_length n P
theorem flat_length (n : Nat) (A : List (List Nat)) : (A.flatMap (ext n)).length ≤ A.length * n := by
  induction A with
  | nil => simp
  | cons P A ih =>
    rw [List.flatMap_cons, List.length_append, List.length_cons, Nat.succ_mul]
    have := ext_length n P
    omega
theorem perms_length (n k : Nat) (hn : n ≤ 6) (hk : k ≤ 6) : (permsTo n k).length ≤ 46656 := by
  have h : ∀ k, (permsTo n k).length ≤ 6 ^ k := by
    intro k
    induction k with
    | zero => simp [permsTo, extK]
    | succ k ih =>
      rw [permsTo_succ]
      have h1 := flat_length n (permsTo n k)
      have h2 : (permsTo n k).length * n ≤ 6 ^ k * 6 := Nat.mul_le_mul ih hn
      rw [Nat.pow_succ]
      omega
  exact Nat.le_trans (h k) (Nat.pow_le_pow_right (n := 6) (by omega) hk)

/-! ### trying -/
def leaves (f : List Nat → Bool) : Nat → List Nat → Nat → List (List Nat)
  | 0, P, _ => [P]
  | k + 1, P, s => (nodesL s).flatMap fun v => if f (P ++ [v]) = true then leaves f k (P ++ [v]) (less s (2 ^ v)) else []
theorem foldl_flat {α : Type} (g : Nat → List α) (vs : List Nat) (acc : List α) : vs.foldl (fun a v => a ++ g v) acc = acc ++ vs.flatMap g := by
  induction vs generalizing acc with
  | nil => simp
  | cons v vs ih => rw [List.foldl_cons, ih]; simp
theorem dfs_leaves (f : List Nat → Bool) (k : Nat) : ∀ (acc : List (List Nat)) (P : List Nat) (s : Nat), dfs (fun _ P => f P) k acc P s = acc ++ leaves f k P s := by
  induction k with
  | zero => intro acc P s; rfl
  | succ k ih =>
    intro acc P s
    rw [dfs_succ]
    unfold runF leaves
    rw [← foldl_flat]
    congr 1
    funext a v
    unfold stepF
    split
    · exact ih _ _ _
    · simp
/-- All beginnings longer than p fit. -/
def okFrom (f : List Nat → Bool) (p : Nat) (Q : List Nat) : Bool := (List.range Q.length).all fun i => decide (i < p) || f (Q.take (i + 1))
theorem okFrom_iff (f : List Nat → Bool) (p : Nat) (Q : List Nat) : okFrom f p Q = true ↔ ∀ i, p ≤ i → i < Q.length → f (Q.take (i + 1)) = true := by
  unfold okFrom
  rw [List.all_eq_true]
  constructor
  · intro h i h1 h2
    have := h i (List.mem_range.2 h2)
    simpa [show ¬ i < p by omega] using this
  · intro h i hi
    by_cases h1 : i < p
    · simp [h1]
    · simp [h i (by omega) (List.mem_range.1 hi)]
theorem extK_take (n k : Nat) : ∀ (P Q : List Nat), Q ∈ extK n k [P] → Q.take P.length = P ∧ Q.length = P.length + k := by
  induction k with
  | zero => intro P Q h; simp [extK] at h; subst h; simp
  | succ k ih =>
    intro P Q h
    unfold extK at h
    rw [extK_flat, List.mem_flatMap] at h
    obtain ⟨R, hR, hQ⟩ := h
    simp at hR
    unfold ext at hR
    obtain ⟨v, _, rfl⟩ := List.mem_map.1 hR
    obtain ⟨h1, h2⟩ := ih _ _ hQ
    rw [List.length_append, List.length_singleton] at h1 h2
    refine ⟨?_, by omega⟩
    have h3 := congrArg (List.take P.length) h1
    rw [List.take_take] at h3
    simpa [Nat.min_eq_left (Nat.le_succ P.length)] using h3
/-- A set is the names that are left. -/
def Comp (n : Nat) (P : List Nat) (s : Nat) : Prop := nodesL s = left n P
theorem comp_next : ∀ {n : Nat} {P : List Nat} {s v : Nat}, s < 64 → Comp n P s → v ∈ nodesL s → Comp n (P ++ [v]) (less s (2 ^ v)) := by
  intro n P s v hs h hv
  have h1 := nodes_mem.1 hv
  have h2 := (less_bit ⟨s, hs⟩ ⟨v, h1.1⟩).2 h1.2
  dsimp only at h2
  unfold Comp at h ⊢
  rw [h2.1, h]
  unfold left
  rw [List.filter_filter]
  refine List.filter_congr fun x hx => ?_
  by_cases h3 : x = v
  · subst h3; simp
  · simp [h3]
theorem flat_congr {α β : Type} {l : List α} {f g : α → List β} (h : ∀ a ∈ l, f a = g a) : l.flatMap f = l.flatMap g := by
  induction l with
  | nil => rfl
  | cons a l ih => rw [List.flatMap_cons, List.flatMap_cons, h a (by simp), ih fun b hb => h b (by simp [hb])]
theorem leaves_filter (f : List Nat → Bool) (n k : Nat) : ∀ (P : List Nat) (s : Nat), s < 64 → Comp n P s → leaves f k P s = (extK n k [P]).filter (okFrom f P.length) := by
  induction k with
  | zero =>
    intro P s hs h
    have e : okFrom f P.length P = true := (okFrom_iff _ _ _).2 (fun i h1 h2 => absurd h2 (by omega))
    simp [leaves, extK, e]
  | succ k ih =>
    intro P s hs h
    unfold leaves extK
    rw [extK_flat, show [P].flatMap (ext n) = ext n P by simp, List.filter_flatMap, h]
    unfold ext
    rw [List.flatMap_map]
    refine flat_congr fun v hv => ?_
    have hvs : v ∈ nodesL s := by rw [h]; exact hv
    have hc := comp_next hs h hvs
    have hl : less s (2 ^ v) < 64 := (less_bit ⟨s, hs⟩ ⟨v, (nodes_mem.1 hvs).1⟩).1
    rw [ih _ _ hl hc]
    have hlen : (P ++ [v]).length = P.length + 1 := by simp
    by_cases hf : f (P ++ [v]) = true
    · rw [if_pos hf]
      refine List.filter_congr fun Q hQ => ?_
      obtain ⟨h1, h2⟩ := extK_take n k _ _ hQ
      rw [Bool.eq_iff_iff, okFrom_iff, okFrom_iff, hlen]
      constructor
      · intro h3 i h4 h5
        by_cases h6 : i = P.length
        · subst h6; rw [← hlen, h1]; exact hf
        · exact h3 i (by omega) h5
      · intro h3 i h4 h5
        exact h3 i (by omega) h5
    · rw [if_neg hf]
      symm
      rw [List.filter_eq_nil_iff]
      intro Q hQ
      obtain ⟨h1, h2⟩ := extK_take n k _ _ hQ
      rw [okFrom_iff]
      intro h3
      have := h3 P.length (Nat.le_refl _) (by rw [h2, hlen]; omega)
      rw [← hlen, h1] at this
      exact hf this
theorem full_comp : ∀ n : Fin 7, nodesL (2 ^ n.val - 1) = List.range n.val := by decide
theorem likeL_eq (L M : List Int) (h6 : L.length ≤ 6) : likeL L M = (permsTo L.length L.length).filter (okFrom (fitB L M) 0) := by
  unfold likeL allNames
  rw [dfs_leaves (fitB L M), List.nil_append]
  have h1 := full_comp ⟨L.length, by omega⟩
  dsimp only at h1
  exact leaves_filter (fitB L M) L.length L.length [] _ (by have := two_le h6; have := two_pos L.length; omega) (by unfold Comp left; rw [h1]; exact (List.filter_eq_self.2 (by simp)).symm)
end Go.Proofs.YtcemhepojjbcgaaDoor

/- The model's GraphCode. -/


namespace Go.Proofs.YtcemhepojjbcgaaDoor
open Go.RowKit
set_option linter.unusedVariables false


/-- What one pair's round asks. -/
theorem code_step {L : List Int} (hg : IsGraph L) {x y k : Nat} (hx : x < y) (hy : y < L.length) (ek : (upto y x).length = k) :
    ∃ X bit p q : Nat, L[x]?.getD 0 = (X : Int) ∧ k ≤ 15 ∧ (upto y (x + 1)).length = k + 1 ∧ bits .and .i64 ((X : Int) / 2 ^ y) 1 = (bit : Int) ∧ wrap64 ((bit : Int) * 2 ^ k) = (p : Int) ∧
      bits .or .i64 (((crun L (upto y x)).1 : Nat) : Int) (p : Int) = (q : Int) ∧ (crun L (upto y (x + 1))).1 = q := by
  have h6 := hg.2.1
  have hin := (hg.2.2 x (by omega)).1
  have hX := ent_int hin
  have hXl := ent_lt hin
  have h64 := two_le h6
  have hup := upto_length y x (by omega) (by omega)
  have hst := crun_snoc L (upto y x) (x, y)
  have hat := crun_at L (upto y x)
  have hsm := crun_small L (upto y x) hup
  have hk1 : (upto y (x + 1)).length = k + 1 := by rw [upto_succ, List.length_append, ek]; rfl
  rw [← upto_succ] at hst
  rw [ek] at hup hat
  obtain ⟨bit, eb, hb, f1⟩ := and_facts (ent L x) y (by omega)
  have e1 : bt L x y = bit := by unfold bt; exact eb.symm
  have f2 := wrap_shift bit k _ hb (by omega) rfl
  have hp : bit * 2 ^ k < 2 ^ 16 := bit_shift hb (by omega)
  have hp2 : bit * 2 ^ k < 9223372036854775808 := Nat.lt_trans hp (by decide)
  have f3 := i64_or_nat (crun L (upto y x)).1 (bit * 2 ^ k) (Nat.lt_trans hsm (by decide)) hp2
  refine ⟨ent L x, bit, bit * 2 ^ k, _, hX, hup, hk1, f1, f2, f3, ?_⟩
  rw [hst]
  show (crun L (upto y x)).1 ||| bt L x y * 2 ^ (crun L (upto y x)).2 = _
  rw [hat, e1]

set_option maxHeartbeats 1000000 in
theorem specCode_seen (A : Option Addr) (c : Nat) (L : List Int) (hg : IsGraph L) (w : World) (h : Seen w A L) :
    Calls Tryd.prog 69 #[.slice A L.length c] w (Num w (codeOf L)) := by
  have h1 := hg.1
  have h6 := hg.2.1
  obtain ⟨n, hn⟩ : ∃ n, n = L.length := ⟨_, rfl⟩
  rw [← hn] at h1 h6 ⊢
  have HN := Lib.hid hn
  have H := Lib.hid h
  have HG := Lib.hid hg
  clear h hg hn
  go_enter Tryd.func69, Tryd.ntmps69
  go_wp2
  go_loop [3, 4, 5, 6] (fun r at_ b _ => ∃ y q k : Nat, 1 ≤ y ∧ y ≤ n ∧ b = .int .i64 y ∧ at_ = .int .i64 k ∧ r = .int .i64 q ∧ Hid ((rows y).length = k) ∧ Hid ((crun L (rows y)).1 = q)) (fun _ _ b _ => n - (intOf b).toNat)
  case atStart => exact ⟨1, 0, 0, by omega, h1, rfl, rfl, rfl, Lib.hid rfl, Lib.hid rfl⟩
  case round =>
    obtain ⟨y, q, k, hy1, hyn, rfl, rfl, rfl, hk, hq⟩ := hrel
    by_cases hlt : y < n
    · have hi2 : (y : Int) < (n : Int) := by omega
      go_wp2
      go_loop [3, 4, 6] (fun r at_ a => ∃ x q k : Nat, x ≤ y ∧ a = .int .i64 x ∧ at_ = .int .i64 k ∧ r = .int .i64 q ∧ Hid ((upto y x).length = k) ∧ Hid ((crun L (upto y x)).1 = q)) (fun _ _ a => y - (intOf a).toNat)
      case atStart => exact ⟨0, q, k, Nat.zero_le _, rfl, rfl, rfl, Lib.hid (by rw [upto_zero]; exact hk.out), Lib.hid (by rw [upto_zero]; exact hq.out)⟩
      case round =>
        obtain ⟨x, q2, k2, hxy, rfl, rfl, rfl, hk2, hq2⟩ := hrel
        by_cases hlx : x < y
        · obtain ⟨blk, off, rfl, hbl, hc⟩ := H.out x (by have := HN.out; omega)
          obtain ⟨X, bit, p, q3, eX, hk15, hk3, f1, f2, f3, f4⟩ := code_step HG.out hlx (by have := HN.out; omega) hk2.out
          rw [eX] at hc
          rw [hq2.out] at f3
          have F4 := Lib.hid f4
          have K3 := Lib.hid hk3
          have hi1 : (0 : Int) ≤ (x : Int) ∧ (x : Int) < (n : Int) := by omega
          clear f4 hk3 eX hbl
          go_wp2
          go_round
          case rel => exact ⟨x + 1, q3, k2 + 1, by omega, by go_num, by go_num, rfl, K3, F4⟩
          case measure => simp [intOf]; omega
        · have hxe : x = y := by omega
          subst hxe
          go_wp2
          go_round
          case rel => exact ⟨x + 1, q2, k2, by omega, by omega, by go_num, rfl, rfl, Lib.hid (by rw [← upto_end]; exact hk2.out), Lib.hid (by rw [← upto_end]; exact hq2.out)⟩
          case measure => simp [intOf]; omega
    · have hye : y = n := by omega
      subst hye
      go_wp2
      go_ret
      exact ⟨ret_int (by rw [← hq.out, HN.out]; rfl), rfl⟩
end Go.Proofs.YtcemhepojjbcgaaDoor

/- The model's l1Named: each place of each row is put where its names say. -/




namespace Go.Proofs.YtcemhepojjbcgaaDoor
open Go.RowKit
set_option linter.unusedVariables false

/-- Between two places: the list holds those that are done. -/
def NaRel (w wr : World) (g n : Nat) (L P : List Int) (pre : List (Nat × Nat)) : Prop := Row wr w.heap.size (.slice (some ⟨g, 0, none⟩) n n) (ints (mrun L n (nm P) pre)) ∧ Below w.heap.size w wr

/-- All that one place's round asks, and what it leaves. -/
theorem na_step {w wr : World} {g n : Nat} {L P : List Int} (hn : n = L.length) (hg : IsGraph L) (hP : IsNames P n) {v x : Nat} (hv : v < n) (hx : x < n) (hG : g = w.heap.size) (hq : NaRel w wr g n L P (gridTo n v x)) :
    ∃ X a b bit q u : Nat, L[v]?.getD 0 = (X : Int) ∧ P[v]?.getD 0 = (a : Int) ∧ P[x]?.getD 0 = (b : Int) ∧ a < n ∧ b < n ∧
      bits .and .i64 ((X : Int) / 2 ^ x) 1 = (bit : Int) ∧ (wrap64 ((bit : Int) * 2 ^ b) = (q : Int) ∧ IntKind.i64.wrap ((bit : Int) * 2 ^ b) = (q : Int)) ∧
      bits .or .i64 (u : Int) (q : Int) = ((u ||| q : Nat) : Int) ∧
      (wr.cell? ⟨g, a, none⟩ = some (.int .i64 u) ∧ wr.frozen? ⟨g, a, none⟩ = false) ∧
      ∃ w2 w3, w2 = wr.drew ∧ w2.cell? ⟨g, a, none⟩ = some (.int .i64 u) ∧ w2.frozen? ⟨g, a, none⟩ = false ∧ w3 = w2.setCell ⟨g, a, none⟩ (.int .i64 ((u ||| q : Nat) : Int)) ∧ Hid (NaRel w w3 g n L P (gridTo n v (x + 1))) := by
  have h6 := hg.2.1
  have hin := (hg.2.2 v (by omega)).1
  have hX := ent_int hin
  have hXl := ent_lt hin
  have h64 := two_le h6
  obtain ⟨ea, ha⟩ := nm_int hP hv
  obtain ⟨eb, hb⟩ := nm_int hP hx
  have hL : (mrun L n (nm P) (gridTo n v x)).length = n := mrun_length _ _ _ _
  have hsm := mrun_lt L n (nm P) (gridTo n v x) (fun e he => by
    have h1 := gridTo_mem n v x hv (by omega) e he
    have h2 := nm_int hP h1.2
    omega)
  have hst := mrun_snoc L n (nm P) (gridTo n v x) (v, x)
  rw [← gridTo_succ] at hst
  obtain ⟨bit, ebit, hbit, f1⟩ := and_facts (ent L v) x (by omega)
  have e1 : bt L v x = bit := by unfold bt; exact ebit.symm
  obtain ⟨b, ebb⟩ : ∃ b, b = nm P x := ⟨_, rfl⟩
  obtain ⟨a, eaa⟩ : ∃ a, a = nm P v := ⟨_, rfl⟩
  rw [← ebb] at eb hb
  rw [← eaa] at ea ha
  obtain ⟨q, eq⟩ : ∃ q, q = bit * 2 ^ b := ⟨_, rfl⟩
  have hq6 := bit_pow (k := b) hbit (by omega)
  rw [← eq] at hq6
  obtain ⟨u, eu⟩ : ∃ u, u = (mrun L n (nm P) (gridTo n v x))[a]?.getD 0 := ⟨_, rfl⟩
  have hu6 : u < 2 ^ 6 := by rw [eu]; exact get_lt hsm a (by omega)
  have f2 := wrap_bit bit b q hbit (by omega) eq
  have f3 := i64_or_nat u q (Nat.lt_trans hu6 (by decide)) (Nat.lt_trans hq6 (by decide))
  have hrow := hq.1
  have hl1 : a < (ints (mrun L n (nm P) (gridTo n v x))).length := by rw [ints_length]; omega
  have hc : wr.cell? ⟨g, a, none⟩ = some (.int .i64 u) := by rw [hrow.cellAt a hl1, ints_get, ← eu]
  have hf : wr.frozen? ⟨g, a, none⟩ = false := hrow.frozenAt a hl1
  have r1 := hrow.set a hl1 ((u ||| q : Nat) : Int)
  rw [ints_set] at r1
  have el : mrun L n (nm P) (gridTo n v (x + 1)) = (mrun L n (nm P) (gridTo n v x)).set a (u ||| q) := by
    rw [hst]
    unfold orAt
    dsimp only
    rw [e1, ← ebb, ← eaa, ← eq, ← eu]
  rw [← el] at r1
  refine ⟨ent L v, a, b, bit, q, u, hX, ea, eb, ha, hb, f1, ⟨f2, by rw [IntKind.wrap_i64]; unfold wrap64 at f2; exact f2⟩, f3, ⟨hc, hf⟩, _, _, rfl, hc, hf, rfl, Lib.hid ⟨r1, ?_⟩⟩
  exact (hq.2.drew).setCell (p := ⟨g, a, none⟩) (by show w.heap.size ≤ g; omega) _

set_option maxRecDepth 100000 in
set_option maxHeartbeats 2000000 in
theorem specNamed_seen (A A' : Option Addr) (c c' : Nat) (L P : List Int) (hg : IsGraph L) (hP : IsNames P L.length) (w : World) (h : Seen w A L) (h' : Seen w A' P) :
    Calls Tryd.prog 70 #[.slice A L.length c, .slice A' P.length c'] w (Gave w (ints (mrun L L.length (nm P) (grid L.length L.length)))) := by
  have h1 := hg.1
  have h6 := hg.2.1
  have hpl := hP.1
  obtain ⟨n, hn⟩ : ∃ n, n = L.length := ⟨_, rfl⟩
  rw [← hn] at h1 h6 hP hpl ⊢
  rw [hpl]
  have hmk := run_make_ints n (by omega)
  obtain ⟨g, eg⟩ : ∃ g, g = w.heap.size := ⟨_, rfl⟩
  have HN := Lib.hid hn
  have HPL := Lib.hid hpl
  have H := Lib.hid h
  have H' := Lib.hid h'
  have HG := Lib.hid hg
  have HP := Lib.hid hP
  have EG := Lib.hid eg
  have R0 := Lib.hid (madeW_row w n (by omega))
  have B0 := Lib.hid (madeW_below w n)
  clear h h' hg hn hP hpl eg
  go_enter Tryd.func70, Tryd.ntmps70
  go_wp2
  clear hmk
  obtain ⟨w0, hw0⟩ : ∃ w0, w0 = madeW w n := ⟨_, rfl⟩
  rw [← hw0] at R0 B0 ⊢
  rw [← EG.out] at R0 ⊢
  clear hw0
  go_loopw [6] (fun v wr => ∃ y : Nat, y ≤ n ∧ v = .int .i64 y ∧ Hid (NaRel w wr g n L P (grid n y))) (fun v _ => n - (intOf v).toNat)
  case atStart => exact ⟨0, by omega, rfl, Lib.hid ⟨by rw [grid_zero]; rw [EG.out] at *; exact R0.out, B0.out⟩⟩
  case round =>
    obtain ⟨y, hyn, rfl, hr⟩ := hrel
    obtain ⟨wo, rfl⟩ : ∃ wo : World, wo = wr := ⟨_, rfl⟩
    by_cases hlt : y < n
    · have hi2 : (y : Int) < (n : Int) := by omega
      go_wp2
      go_loopw [7] (fun b wr' => ∃ x : Nat, x ≤ n ∧ b = .int .i64 x ∧ Hid (NaRel w wr' g n L P (gridTo n y x))) (fun b _ => n - (intOf b).toNat)
      case atStart => exact ⟨0, Nat.zero_le _, rfl, by rw [gridTo_zero]; exact hr⟩
      case round =>
        obtain ⟨x, hxn, rfl, hq⟩ := hrel
        by_cases hlx : x < n
        · obtain ⟨X, a, b, bit, q, u, eX, ea, eb, ha, hb, f1, ⟨f2, f2'⟩, f3, ⟨hc, hf⟩, w2, w3, e2, hc2, hf2, e3, hrel'⟩ := na_step HN.out HG.out HP.out hlt hlx EG.out hq.out
          obtain ⟨blk, off, rfl, hbl, hcL⟩ := H.out y (by have := HN.out; omega)
          obtain ⟨blk', off', rfl, hbl', hcP⟩ := H'.out y (by have := HPL.out; omega)
          obtain ⟨blk2, off2, e2b, hbl2, hcQ⟩ := H'.out x (by have := HPL.out; omega)
          obtain ⟨rfl, rfl⟩ : blk' = blk2 ∧ off' = off2 := by injection e2b with e; injection e with e1 e2; exact ⟨e1, e2⟩
          rw [eX] at hcL
          rw [ea] at hcP
          rw [eb] at hcQ
          have hLw : wr.cell? ⟨blk, off + y, none⟩ = some (.int .i64 X) := (hq.out.2.cell (p := ⟨blk, off + y, none⟩) hbl).trans hcL
          have hPw : wr.cell? ⟨blk', off' + y, none⟩ = some (.int .i64 a) := (hq.out.2.cell (p := ⟨blk', off' + y, none⟩) hbl').trans hcP
          have hQw : wr.cell? ⟨blk', off' + x, none⟩ = some (.int .i64 b) := (hq.out.2.cell (p := ⟨blk', off' + x, none⟩) hbl').trans hcQ
          have hi1 : (0 : Int) ≤ (y : Int) ∧ (y : Int) < (n : Int) := by omega
          have hi3 : (0 : Int) ≤ (x : Int) ∧ (x : Int) < (n : Int) := by omega
          have hi4 : (0 : Int) ≤ (a : Int) ∧ (a : Int) < (n : Int) := by omega
          have E2 := Lib.hid e2
          have E3 := Lib.hid e3
          clear hq e2 e3 hbl hbl' hbl2 hcL hcP hcQ e2b eX ea eb
          go_wp2
          go_still_tail 26, (by kernel_rfl)
          change wpList _ _ _ _ _ wr.drew
          rw [← E2.out]
          go_wp2
          rw [← E3.out]
          clear f1 f2 f3 f2' hc hf hc2 hf2 hLw hPw hQw
          go_roundw
          case rel => exact ⟨x + 1, by omega, by go_num, Lib.hid hrel'.out⟩
          case measure => simp [intOf]; omega
        · have hxe : x = n := by omega
          subst hxe
          go_wp2
          go_roundw
          case rel => exact ⟨y + 1, by omega, by go_num, Lib.hid (by have h0 := hq.out; rw [gridTo_end] at h0; exact h0)⟩
          case measure => simp [intOf]; omega
    · have hye : y = n := by omega
      subst hye
      go_wp2
      go_ret
      exact ⟨_, rfl, hr.out.1, hr.out.2⟩

end Go.Proofs.YtcemhepojjbcgaaDoor

/- When names make one graph another one: by codes, and by trying. Plain mathematics, no condition. -/


namespace Go.Proofs.YtcemhepojjbcgaaDoor
open Go Go.RowKit
set_option linter.unusedVariables false
set_option maxRecDepth 100000

/-- The graph with its nodes named. -/
def namedL (L : List Int) (P : List Nat) : List Int := ints (mrun L L.length (nm (ints P)) (grid L.length L.length))
theorem nm_ints (P : List Nat) (v : Nat) : nm (ints P) v = at_ P v := by
  unfold nm at_
  rw [ints_get]
  rfl
theorem names_is {n : Nat} {P : List Nat} (h : Names n n P) : IsNames (ints P) n := by
  have hnat : natOf (ints P) = P := by
    unfold natOf ints
    rw [List.map_map]
    exact (List.map_congr_left (fun x _ => by simp)).trans (List.map_id P)
  refine ⟨by rw [ints_length]; exact h.1, fun k hk => ?_, by rw [hnat]; exact h.2.1⟩
  rw [ints_length] at hk
  unfold InN
  rw [ints_at hk]
  have := at_lt h.2.2 hk
  omega
theorem at_inj {n : Nat} {P : List Nat} (h : Names n n P) {a b : Nat} (ha : a < n) (hb : b < n) (e : at_ P a = at_ P b) : a = b := by
  refine Classical.byContradiction fun hne => ?_
  have := nm_ne (names_is h) ha hb hne
  rw [nm_ints, nm_ints] at this
  exact this e
theorem at_surj {n : Nat} {P : List Nat} (h : Names n n P) {j : Nat} (hj : j < n) : ∃ a, a < n ∧ at_ P a = j := by
  have h1 : seenOf P = 2 ^ n - 1 := (names_iff P n h.1 h.2.2).2 h.2.1
  have h2 := (seenOf_full P n h.2.2).1 h1 j hj
  obtain ⟨a, ha, e⟩ := List.mem_iff_getElem.1 h2
  refine ⟨a, by rw [← h.1]; exact ha, ?_⟩
  unfold at_
  rw [List.getElem?_eq_getElem ha]
  exact e
theorem bt_ints (g : List Nat) (i j : Nat) : bt (ints g) i j = 1 ↔ (g[i]?.getD 0).testBit j = true := by
  unfold bt ent
  rw [ints_get, Int.toNat_natCast, Nat.testBit_eq_decide_div_mod_eq, decide_eq_true_eq]
theorem named_bt {L : List Int} {P : List Nat} (h : Names L.length L.length P) (i j : Nat) : bt (namedL L P) i j = 1 ↔ ∃ a b, a < L.length ∧ b < L.length ∧ bt L a b = 1 ∧ i = at_ P a ∧ j = at_ P b := by
  unfold namedL
  rw [bt_ints, mrun_bit L L.length (nm (ints P)) (fun v hv => (nm_int (names_is h) hv).2) _ (fun e he => by obtain ⟨a, b⟩ := e; exact ((grid_all _ _ _).1 he).1)]
  constructor
  · rintro ⟨⟨a, b⟩, he, h1, h2, h3⟩
    obtain ⟨ha, hb⟩ := (grid_all _ _ _).1 he
    exact ⟨a, b, ha, hb, h1, by rw [← nm_ints]; exact h2, by rw [← nm_ints]; exact h3⟩
  · rintro ⟨a, b, ha, hb, h1, h2, h3⟩
    exact ⟨(a, b), (grid_all _ _ _).2 ⟨ha, hb⟩, h1, by rw [nm_ints]; exact h2, by rw [nm_ints]; exact h3⟩
theorem bt_eq {L M : List Int} {a b c d : Nat} (h : bt L a b = 1 ↔ bt M c d = 1) : bt L a b = bt M c d := by
  have h1 := bt_le L a b
  have h2 := bt_le M c d
  by_cases h3 : bt L a b = 1
  · rw [h3, h.1 h3]
  · have h4 : ¬ bt M c d = 1 := fun e => h3 (h.2 e)
    omega
theorem named_at {L : List Int} {P : List Nat} (h : Names L.length L.length P) {a b : Nat} (ha : a < L.length) (hb : b < L.length) : bt (namedL L P) (at_ P a) (at_ P b) = bt L a b := by
  refine bt_eq ?_
  rw [named_bt h]
  constructor
  · rintro ⟨c, d, hc, hd, h1, h2, h3⟩
    rw [at_inj h ha hc h2, at_inj h hb hd h3]
    exact h1
  · intro h1
    exact ⟨a, b, ha, hb, h1, rfl, rfl⟩
theorem bt_sym {L : List Int} (hg : IsGraph L) {a b : Nat} (ha : a < L.length) (hb : b < L.length) : bt L a b = bt L b a := by
  rcases Nat.lt_trichotomy a b with h | h | h
  · exact ((hg.2.2 b hb).2.2 a h).symm
  · rw [h]
  · exact (hg.2.2 a ha).2.2 b h
theorem namedL_length (L : List Int) (P : List Nat) : (namedL L P).length = L.length := by unfold namedL; rw [ints_length, mrun_length]
theorem named_graph {L : List Int} (hg : IsGraph L) {P : List Nat} (h : Names L.length L.length P) : IsGraph (namedL L P) := by
  have hl := namedL_length L P
  refine ⟨by rw [hl]; exact hg.1, by rw [hl]; exact hg.2.1, fun v hv => ?_⟩
  rw [hl] at hv
  refine ⟨?_, ?_, fun w hw => ?_⟩
  · unfold InR
    rw [hl]
    unfold namedL
    rw [ints_get]
    refine ⟨by omega, ?_⟩
    have h1 : (mrun L L.length (nm (ints P)) (grid L.length L.length))[v]?.getD 0 < 2 ^ L.length := by
      refine Nat.lt_pow_two_of_testBit _ fun j hj => ?_
      cases e : ((mrun L L.length (nm (ints P)) (grid L.length L.length))[v]?.getD 0).testBit j with
      | false => rfl
      | true =>
        have h2 := (named_bt h v j).1 ((bt_ints _ _ _).2 e)
        obtain ⟨a, b, ha, hb, _, _, h3⟩ := h2
        have := at_lt h.2.2 (show b < P.length by rw [h.1]; exact hb)
        omega
    omega
  · have h1 := bt_le (namedL L P) v v
    refine Nat.le_antisymm ?_ (Nat.zero_le _)
    refine Nat.le_of_not_lt fun h2 => ?_
    have h3 : bt (namedL L P) v v = 1 := by omega
    obtain ⟨a, b, ha, hb, h4, h5, h6⟩ := (named_bt h v v).1 h3
    have h7 := at_inj h ha hb (h5.symm.trans h6)
    subst h7
    have := (hg.2.2 a ha).2.1
    omega
  · refine bt_eq ?_
    rw [named_bt h, named_bt h]
    constructor
    · rintro ⟨a, b, ha, hb, h1, h2, h3⟩
      exact ⟨b, a, hb, ha, (bt_sym hg hb ha).trans h1, h3, h2⟩
    · rintro ⟨a, b, ha, hb, h1, h2, h3⟩
      exact ⟨b, a, hb, ha, (bt_sym hg hb ha).trans h1, h3, h2⟩

/-! ### codes -/
theorem crun_bit (L : List Int) (ps : List (Nat × Nat)) (k : Nat) (hk : k < ps.length) : (crun L ps).1.testBit k = true ↔ bt L (ps[k]).1 (ps[k]).2 = 1 := by
  induction ps using snoc_ind with
  | h0 => simp at hk
  | h1 l x ih =>
    rw [crun_snoc]
    unfold cstep
    dsimp only
    rw [Nat.testBit_or, crun_at, Bool.or_eq_true, bit_test _ _ _ (bt_le _ _ _)]
    simp only [Bool.and_eq_true, decide_eq_true_eq]
    rw [List.length_append, List.length_singleton] at hk
    by_cases h : k < l.length
    · rw [List.getElem_append_left h, ih h]
      constructor
      · rintro (h1 | ⟨_, h1⟩)
        · exact h1
        · omega
      · exact .inl
    · have hkl : k = l.length := by omega
      subst hkl
      rw [List.getElem_append_right (Nat.le_refl _)]
      have h1 := crun_lt L l
      have h2 : (crun L l).1.testBit l.length = false := Nat.testBit_lt_two_pow h1
      rw [h2]
      simp
theorem graph_ext {A B : List Int} (hA : IsGraph A) (hB : IsGraph B) (hl : A.length = B.length) (h : ∀ i j, i < A.length → j < A.length → bt A i j = bt B i j) : A = B := by
  refine List.ext_getElem hl fun i h1 h2 => ?_
  have a1 := (hA.2.2 i h1).1
  have b1 := (hB.2.2 i h2).1
  have e : ent A i = ent B i := by
    refine Nat.eq_of_testBit_eq fun j => ?_
    by_cases hj : j < A.length
    · have h3 := h i j h1 hj
      unfold bt at h3
      rw [Nat.testBit_eq_decide_div_mod_eq, Nat.testBit_eq_decide_div_mod_eq, h3]
    · have h4 := ent_lt a1
      have h5 := ent_lt b1
      rw [← hl] at h5
      rw [Nat.testBit_lt_two_pow (Nat.lt_of_lt_of_le h4 (pow_le _ _ (by omega))), Nat.testBit_lt_two_pow (Nat.lt_of_lt_of_le h5 (pow_le _ _ (by omega)))]
  have h6 := ent_int a1
  have h7 := ent_int b1
  rw [List.getElem?_eq_getElem h1] at h6
  rw [List.getElem?_eq_getElem h2] at h7
  simp only [Option.getD_some] at h6 h7
  rw [h6, h7, e]
theorem code_inj {A B : List Int} (hA : IsGraph A) (hB : IsGraph B) (hl : A.length = B.length) (h : codeOf A = codeOf B) : A = B := by
  have hp : ∀ a b, a < b → b < A.length → bt A a b = bt B a b := fun a b hab hb => by
    obtain ⟨k, hk, e⟩ := List.mem_iff_getElem.1 ((rows_all A.length a b).2 ⟨hab, hb⟩)
    have h1 := crun_bit A (rows A.length) k hk
    have h2 := crun_bit B (rows A.length) k hk
    rw [e] at h1 h2
    refine bt_eq (h1.symm.trans (Iff.trans ?_ h2))
    unfold codeOf at h
    rw [← hl] at h
    rw [h]
  refine graph_ext hA hB hl fun i j hi hj => ?_
  rcases Nat.lt_trichotomy i j with h1 | h1 | h1
  · exact hp i j h1 hj
  · subst h1
    rw [(hA.2.2 i hi).2.1, (hB.2.2 i (by omega)).2.1]
  · rw [bt_sym hA hi hj, bt_sym hB (by omega) (by omega)]
    exact hp j i h1 hi
theorem take_at {P : List Nat} {i v : Nat} (h : v < i) : at_ (P.take i) v = at_ P v := by
  unfold at_
  rw [List.getElem?_take_of_lt h]
/-- **By codes and by trying.** -/
theorem ok_iff {L M : List Int} (hL : IsGraph L) (hM : IsGraph M) (hl : L.length = M.length) {P : List Nat} (h : Names L.length L.length P) : okFrom (fitB L M) 0 P = true ↔ codeOf (namedL L P) = codeOf M := by
  rw [okFrom_iff]
  constructor
  · intro hok
    have h1 : ∀ v i, v < i → i < L.length → bt L v i = bt M (at_ P v) (at_ P i) := fun v i hvi hi => by
      have h2 := hok i (Nat.zero_le _) (by rw [h.1]; exact hi)
      unfold fitB at h2
      have hlen : (P.take (i + 1)).length - 1 = i := by rw [List.length_take, h.1]; omega
      rw [hlen] at h2
      have h3 := List.all_eq_true.1 h2 v (List.mem_range.2 hvi)
      unfold okAt at h3
      rw [hlen, take_at (by omega), take_at (by omega)] at h3
      simpa using h3
    have h2 : namedL L P = M := by
      refine graph_ext (named_graph hL h) hM (by rw [namedL_length, hl]) fun i j hi hj => ?_
      rw [namedL_length] at hi hj
      obtain ⟨a, ha, rfl⟩ := at_surj h hi
      obtain ⟨b, hb, rfl⟩ := at_surj h hj
      rw [named_at h ha hb]
      rcases Nat.lt_trichotomy a b with h3 | h3 | h3
      · exact h1 a b h3 hb
      · subst h3
        rw [(hL.2.2 a ha).2.1, (hM.2.2 _ (by omega)).2.1]
      · rw [bt_sym hL ha hb, bt_sym hM (by omega) (by omega)]
        exact h1 b a h3 ha
    rw [h2]
  · intro hc i _ hi
    rw [h.1] at hi
    have h2 := code_inj (named_graph hL h) hM (by rw [namedL_length, hl]) hc
    unfold fitB
    have hlen : (P.take (i + 1)).length - 1 = i := by rw [List.length_take, h.1]; omega
    rw [hlen, List.all_eq_true]
    intro v hv
    have hv := List.mem_range.1 hv
    unfold okAt
    rw [hlen, take_at (by omega), take_at (by omega), ← h2, named_at h (by omega) hi]
    simp
end Go.Proofs.YtcemhepojjbcgaaDoor

/- Names that fit, by codes. Plain mathematics, no condition. -/


namespace Go.Proofs.YtcemhepojjbcgaaDoor
open Go Go.RowKit
set_option linter.unusedVariables false
set_option maxRecDepth 100000

theorem empty_list (w : World) : Row (w.alloc (.cells #[] 3)) w.heap.size (.slice (some ⟨w.heap.size, 0, none⟩) 0 0) [] :=
  World.ownsRow_lit (base := w.heap.size) (e := 3) (size := 1) w #[] 0 (Nat.le_refl _) (by unfold maxLen; omega) rfl
def okC (L M : List Int) (P : List Nat) : Bool := codeOf (namedL L P) == codeOf M
theorem likeL_codes {L M : List Int} (hL : IsGraph L) (hM : IsGraph M) (hl : L.length = M.length) : likeL L M = (permsTo L.length L.length).filter (okC L M) := by
  rw [likeL_eq L M hL.2.1]
  refine List.filter_congr fun P hP => ?_
  have h := ok_iff hL hM hl (perms_names _ _ P hP)
  unfold okC
  rw [Bool.eq_iff_iff, h]
  simp
theorem filter_first {p : List Nat → Bool} {R : List (List Nat)} {k : Nat} (hk : k < R.length) (h0 : ∀ j, j < k → p (R[j]?.getD []) = false) (h1 : p (R[k]?.getD []) = true) : ∃ t, R.filter p = (R[k]?.getD []) :: t := by
  induction R generalizing k with
  | nil => simp at hk
  | cons x R ih =>
    cases k with
    | zero =>
      have hx : p x = true := by simpa using h1
      exact ⟨R.filter p, by simp [hx]⟩
    | succ k =>
      have hx : p x = false := by simpa using h0 0 (by omega)
      obtain ⟨t, ht⟩ := ih (k := k) (by simpa using hk) (fun j hj => by simpa using h0 (j + 1) (by omega)) (by simpa using h1)
      exact ⟨t, by simpa [List.filter_cons, hx] using ht⟩
theorem filter_none {p : List Nat → Bool} {R : List (List Nat)} (h0 : ∀ j, j < R.length → p (R[j]?.getD []) = false) : R.filter p = [] := by
  rw [List.filter_eq_nil_iff]
  intro a ha
  obtain ⟨j, hj, rfl⟩ := List.mem_iff_getElem.1 ha
  have := h0 j hj
  simp [hj] at this
  simp [this]

end Go.Proofs.YtcemhepojjbcgaaDoor

/- Names one behind another, and back; alike graphs have one least code and as many edges. Plain mathematics, no condition. -/


namespace Go.Proofs.YtcemhepojjbcgaaDoor
open Go Go.RowKit
set_option linter.unusedVariables false
set_option maxRecDepth 100000

theorem range_perms (n : Nat) : ∀ k, k ≤ n → List.range k ∈ permsTo n k
  | 0, _ => by simp [permsTo, extK]
  | k + 1, h => by
    rw [permsTo_succ]
    refine List.mem_flatMap.2 ⟨List.range k, range_perms n k (by omega), ?_⟩
    unfold ext
    exact List.mem_map.2 ⟨k, mem_left.2 ⟨by omega, by simp⟩, List.range_succ.symm⟩
theorem at_range {n i v : Nat} (hv : v < i) (hi : i ≤ n) : at_ ((List.range n).take i) v = v := by
  rw [take_at hv]
  unfold at_
  simp [show v < n by omega]
theorem id_okC {L : List Int} (hL : IsGraph L) : okC L L (List.range L.length) = true := by
  have hp := range_perms L.length L.length (Nat.le_refl _)
  have hn := perms_names _ _ _ hp
  unfold okC
  rw [beq_iff_eq]
  refine (ok_iff hL hL rfl hn).1 ?_
  rw [okFrom_iff]
  intro i _ hi
  rw [List.length_range] at hi
  have hl : ((List.range L.length).take (i + 1)).length = i + 1 := by rw [List.length_take, List.length_range]; omega
  unfold fitB
  rw [List.all_eq_true]
  intro v hv
  rw [List.mem_range, hl] at hv
  unfold okAt
  rw [hl, at_range (by omega) (by omega), at_range (by omega) (by omega)]
  simp

theorem perms_all (n : Nat) : ∀ (k : Nat) (P : List Nat), Names n k P → P ∈ permsTo n k
  | 0, P, h => by
    have e : P = [] := List.eq_nil_of_length_eq_zero h.1
    subst e
    simp [permsTo, extK]
  | k + 1, P, h => by
    have hk : k < P.length := by rw [h.1]; omega
    have e : P = P.take k ++ [P[k]] := by rw [← List.take_succ_eq_append_getElem hk, ← h.1, List.take_length]
    have hnd := h.2.1
    rw [e, List.nodup_append] at hnd
    have ht : Names n k (P.take k) := ⟨by rw [List.length_take, h.1]; omega, hnd.1, fun x hx => h.2.2 x (List.mem_of_mem_take hx)⟩
    rw [permsTo_succ]
    refine List.mem_flatMap.2 ⟨P.take k, perms_all n k _ ht, ?_⟩
    unfold ext
    refine List.mem_map.2 ⟨P[k], mem_left.2 ⟨h.2.2 _ (List.getElem_mem _), fun hm => hnd.2.2 _ hm _ (by simp) rfl⟩, e.symm⟩

theorem map_range_at (n : Nat) (f : Nat → Nat) {v : Nat} (hv : v < n) : at_ ((List.range n).map f) v = f v := by
  unfold at_
  simp [hv]
theorem map_range_names {n : Nat} {f : Nat → Nat} (h : ∀ v, v < n → f v < n) (hi : ∀ a b, a < n → b < n → f a = f b → a = b) : Names n n ((List.range n).map f) := by
  refine ⟨by simp, ?_, fun x hx => ?_⟩
  · unfold List.Nodup
    rw [List.pairwise_map]
    exact List.Pairwise.imp_of_mem (fun {a b} ha hb hne he => hne (hi a b (List.mem_range.1 ha) (List.mem_range.1 hb) he)) List.nodup_range
  · obtain ⟨v, hv, rfl⟩ := List.mem_map.1 hx
    exact h v (List.mem_range.1 hv)
theorem at_name {n : Nat} {P : List Nat} (h : Names n n P) {v : Nat} (hv : v < n) : at_ P v < n := at_lt h.2.2 (by rw [h.1]; exact hv)

def compP (n : Nat) (P Q : List Nat) : List Nat := (List.range n).map fun v => at_ Q (at_ P v)
theorem comp_names {n : Nat} {P Q : List Nat} (hP : Names n n P) (hQ : Names n n Q) : Names n n (compP n P Q) :=
  map_range_names (fun v hv => at_name hQ (at_name hP hv)) (fun a b ha hb e => at_inj hP ha hb (at_inj hQ (at_name hP ha) (at_name hP hb) e))
def invF (n : Nat) (P : List Nat) (j : Nat) : Nat := ((List.range n).find? fun a => at_ P a == j).getD 0
theorem invF_spec {n : Nat} {P : List Nat} (hP : Names n n P) {j : Nat} (hj : j < n) : invF n P j < n ∧ at_ P (invF n P j) = j := by
  obtain ⟨a, ha, e⟩ := at_surj hP hj
  unfold invF
  cases h : (List.range n).find? fun a => at_ P a == j with
  | none =>
    have h1 := List.find?_eq_none.1 h a (List.mem_range.2 ha)
    simp [e] at h1
  | some b =>
    have h1 := List.find?_some h
    have h2 := List.mem_of_find?_eq_some h
    exact ⟨List.mem_range.1 h2, by simpa using h1⟩
def invP (n : Nat) (P : List Nat) : List Nat := (List.range n).map (invF n P)
theorem inv_names {n : Nat} {P : List Nat} (hP : Names n n P) : Names n n (invP n P) :=
  map_range_names (fun v hv => (invF_spec hP hv).1) (fun a b ha hb e => by rw [← (invF_spec hP ha).2, ← (invF_spec hP hb).2, e])

theorem named_comp {L : List Int} (hL : IsGraph L) {P Q : List Nat} (hP : Names L.length L.length P) (hQ : Names L.length L.length Q) : namedL (namedL L P) Q = namedL L (compP L.length P Q) := by
  have hl := namedL_length L P
  have hC := comp_names hP hQ
  have hQ' : Names (namedL L P).length (namedL L P).length Q := by rw [hl]; exact hQ
  refine graph_ext (named_graph (named_graph hL hP) hQ') (named_graph hL hC) (by rw [namedL_length, namedL_length, namedL_length]) fun i j hi hj => ?_
  rw [namedL_length, hl] at hi hj
  obtain ⟨a, ha, ea⟩ := at_surj hC hi
  obtain ⟨b, hb, eb⟩ := at_surj hC hj
  have e1 : i = at_ Q (at_ P a) := by rw [← ea]; unfold compP; rw [map_range_at _ _ ha]
  have e2 : j = at_ Q (at_ P b) := by rw [← eb]; unfold compP; rw [map_range_at _ _ hb]
  have h1 : bt (namedL L (compP L.length P Q)) i j = bt L a b := by rw [← ea, ← eb]; exact named_at hC ha hb
  rw [h1, e1, e2, named_at hQ' (by rw [hl]; exact at_name hP ha) (by rw [hl]; exact at_name hP hb), named_at hP ha hb]
theorem named_inv {L : List Int} (hL : IsGraph L) {P : List Nat} (hP : Names L.length L.length P) : namedL (namedL L P) (invP L.length P) = L := by
  have hl := namedL_length L P
  have hI := inv_names hP
  have hI' : Names (namedL L P).length (namedL L P).length (invP L.length P) := by rw [hl]; exact hI
  have hat : ∀ i, i < L.length → at_ (invP L.length P) (at_ P i) = i := fun i hi => by
    unfold invP
    rw [map_range_at _ _ (at_name hP hi)]
    have h1 := invF_spec hP (at_name hP hi)
    exact at_inj hP h1.1 hi h1.2
  refine graph_ext (named_graph (named_graph hL hP) hI') hL (by rw [namedL_length, hl]) fun i j hi hj => ?_
  rw [namedL_length, hl] at hi hj
  have h1 := named_at hI' (L := namedL L P) (a := at_ P i) (b := at_ P j) (by rw [hl]; exact at_name hP hi) (by rw [hl]; exact at_name hP hj)
  rw [hat i hi, hat j hj] at h1
  rw [h1, named_at hP hi hj]
theorem named_id {L : List Int} (hL : IsGraph L) : namedL L (List.range L.length) = L := by
  have h := id_okC hL
  unfold okC at h
  rw [beq_iff_eq] at h
  exact code_inj (named_graph hL (perms_names _ _ _ (range_perms _ _ (Nat.le_refl _)))) hL (namedL_length _ _) h

/-! ### edges -/
theorem count_le {α : Type} [DecidableEq α] (p : α → Bool) : ∀ (l1 l2 : List α), l1.Nodup → (∀ x ∈ l1, x ∈ l2) → (l1.filter p).length ≤ (l2.filter p).length
  | [], _, _, _ => by simp
  | x :: l1, l2, hn, hs => by
    have hx := hs x List.mem_cons_self
    have hn' := List.nodup_cons.1 hn
    have ih := count_le p l1 (l2.erase x) hn'.2 (fun y hy => (List.mem_erase_of_ne (fun e => hn'.1 (by rw [← e]; exact hy))).2 (hs y (List.mem_cons_of_mem _ hy)))
    have hp := ((List.perm_cons_erase hx).filter p).length_eq
    rw [hp, List.filter_cons, List.filter_cons]
    by_cases h : p x = true
    · rw [if_pos h, if_pos h]; simp; omega
    · rw [if_neg h, if_neg h]; exact ih
theorem rows_nodup : ∀ n : Fin 7, (rows n.val).Nodup := by decide
theorem edges_in {L : List Int} (h6 : L.length ≤ 6) : edgesN L = (edgesIn L (rows L.length)).length := pc_crun L _ (rows_length L.length h6)
def pairUp (P : List Nat) (x : Nat × Nat) : Nat × Nat := (min (at_ P x.1) (at_ P x.2), max (at_ P x.1) (at_ P x.2))
set_option maxHeartbeats 2000000 in
theorem edges_le {L : List Int} (hL : IsGraph L) {P : List Nat} (hP : Names L.length L.length P) : edgesN L ≤ edgesN (namedL L P) := by
  have h6 := hL.2.1
  have hl := namedL_length L P
  have hN := named_graph hL hP
  rw [edges_in h6, edges_in (L := namedL L P) (by rw [hl]; exact h6), hl]
  unfold edgesIn
  have hmem : ∀ x ∈ rows L.length, x.1 < x.2 ∧ x.2 < L.length := fun x hx => (rows_all L.length x.1 x.2).1 hx
  have hnd : ((rows L.length).map (pairUp P)).Nodup := by
    unfold List.Nodup
    rw [List.pairwise_map]
    refine List.Pairwise.imp_of_mem (fun {x y} hx hy hne he => hne ?_) (rows_nodup ⟨L.length, by omega⟩)
    obtain ⟨x1, x2⟩ := hmem x hx
    obtain ⟨y1, y2⟩ := hmem y hy
    unfold pairUp at he
    injection he with e1 e2
    have n1 : at_ P x.1 ≠ at_ P x.2 := fun e => by have := at_inj hP (by omega) (by omega) e; omega
    have n2 : at_ P y.1 ≠ at_ P y.2 := fun e => by have := at_inj hP (by omega) (by omega) e; omega
    have h3 : (at_ P x.1 = at_ P y.1 ∧ at_ P x.2 = at_ P y.2) ∨ (at_ P x.1 = at_ P y.2 ∧ at_ P x.2 = at_ P y.1) := by omega
    rcases h3 with ⟨h3, h4⟩ | ⟨h3, h4⟩
    · exact Prod.ext (at_inj hP (by omega) (by omega) h3) (at_inj hP (by omega) (by omega) h4)
    · have := at_inj hP (by omega) (by omega) h3
      have := at_inj hP (by omega) (by omega) h4
      omega
  have hsub : ∀ x ∈ (rows L.length).map (pairUp P), x ∈ rows L.length := fun x hx => by
    obtain ⟨y, hy, rfl⟩ := List.mem_map.1 hx
    obtain ⟨y1, y2⟩ := hmem y hy
    have n2 : at_ P y.1 ≠ at_ P y.2 := fun e => by have := at_inj hP (by omega) (by omega) e; omega
    have m1 := at_name hP (show y.1 < L.length by omega)
    have m2 := at_name hP (show y.2 < L.length by omega)
    refine (rows_all L.length _ _).2 ⟨?_, ?_⟩
    · show min (at_ P y.1) (at_ P y.2) < max (at_ P y.1) (at_ P y.2); omega
    · show max (at_ P y.1) (at_ P y.2) < L.length; omega
  refine Nat.le_trans (Nat.le_of_eq ?_) (count_le (fun p => bt (namedL L P) p.1 p.2 == 1) _ _ hnd hsub)
  rw [List.filter_map, List.length_map]
  congr 1
  refine List.filter_congr fun x hx => ?_
  obtain ⟨x1, x2⟩ := hmem x hx
  have m1 := at_name hP (show x.1 < L.length by omega)
  have m2 := at_name hP (show x.2 < L.length by omega)
  have h := named_at hP (show x.1 < L.length by omega) (show x.2 < L.length by omega)
  show (bt L x.1 x.2 == 1) = (bt (namedL L P) (min (at_ P x.1) (at_ P x.2)) (max (at_ P x.1) (at_ P x.2)) == 1)
  rcases Nat.le_total (at_ P x.1) (at_ P x.2) with h1 | h1
  · rw [Nat.min_eq_left h1, Nat.max_eq_right h1, h]
  · rw [Nat.min_eq_right h1, Nat.max_eq_left h1, bt_sym hN (by rw [hl]; exact m2) (by rw [hl]; exact m1), h]
theorem edges_named {L : List Int} (hL : IsGraph L) {P : List Nat} (hP : Names L.length L.length P) : edgesN (namedL L P) = edgesN L := by
  have hl := namedL_length L P
  have h1 := edges_le hL hP
  have h2 := edges_le (named_graph hL hP) (P := invP L.length P) (by rw [hl]; exact inv_names hP)
  rw [named_inv hL hP] at h2
  omega

/-! ### the least code -/
def minTo (L : List Int) (R : List (List Nat)) : Nat := R.foldl (fun b P => min b (codeOf (namedL L P))) (codeOf L)
theorem minTo_nil (L : List Int) : minTo L [] = codeOf L := rfl
theorem minTo_snoc (L : List Int) (R : List (List Nat)) (P : List Nat) : minTo L (R ++ [P]) = min (minTo L R) (codeOf (namedL L P)) := by simp [minTo]
theorem minTo_le (L : List Int) (R : List (List Nat)) : ∀ P ∈ R, minTo L R ≤ codeOf (namedL L P) := by
  induction R using snoc_ind with
  | h0 => intro P hP; cases hP
  | h1 l x ih =>
    intro P hP
    rw [minTo_snoc]
    rcases List.mem_append.1 hP with h | h
    · exact Nat.le_trans (Nat.min_le_left _ _) (ih P h)
    · rw [List.mem_singleton.1 h]; exact Nat.min_le_right _ _
theorem minTo_is (L : List Int) (R : List (List Nat)) : minTo L R = codeOf L ∨ ∃ P ∈ R, minTo L R = codeOf (namedL L P) := by
  induction R using snoc_ind with
  | h0 => exact .inl rfl
  | h1 l x ih =>
    rw [minTo_snoc]
    rcases Nat.le_total (minTo L l) (codeOf (namedL L x)) with h | h
    · rw [Nat.min_eq_left h]
      rcases ih with e | ⟨P, hP, e⟩
      · exact .inl e
      · exact .inr ⟨P, by simp [hP], e⟩
    · rw [Nat.min_eq_right h]
      exact .inr ⟨x, by simp, rfl⟩
def leastL (L : List Int) : Nat := minTo L (permsTo L.length L.length)
theorem least_le {L : List Int} {P : List Nat} (hP : Names L.length L.length P) : leastL L ≤ codeOf (namedL L P) := minTo_le L _ P (perms_all _ _ P hP)
theorem least_is {L : List Int} (hL : IsGraph L) : ∃ P, Names L.length L.length P ∧ leastL L = codeOf (namedL L P) := by
  rcases minTo_is L (permsTo L.length L.length) with e | ⟨P, hP, e⟩
  · exact ⟨_, perms_names _ _ _ (range_perms _ _ (Nat.le_refl _)), by rw [named_id hL]; exact e⟩
  · exact ⟨P, perms_names _ _ _ hP, e⟩
theorem least_named {L : List Int} (hL : IsGraph L) {P : List Nat} (hP : Names L.length L.length P) : leastL (namedL L P) = leastL L := by
  have hl := namedL_length L P
  have hN := named_graph hL hP
  refine Nat.le_antisymm ?_ ?_
  · obtain ⟨R, hR, e⟩ := least_is hL
    have hI := inv_names hP
    have hC := comp_names hI hR
    have h1 := named_comp (L := namedL L P) hN (P := invP L.length P) (Q := R) (by rw [hl]; exact hI) (by rw [hl]; exact hR)
    rw [named_inv hL hP, hl] at h1
    rw [e, h1]
    exact least_le (by rw [hl]; exact hC)
  · obtain ⟨R, hR, e⟩ := least_is hN
    rw [hl] at hR
    rw [e, named_comp hL hP hR]
    exact least_le (comp_names hP hR)
/-- **Alike by names, and by least codes.** -/
theorem alike_iff {L M : List Int} (hL : IsGraph L) (hM : IsGraph M) (hl : L.length = M.length) : likeL L M ≠ [] ↔ (edgesN L = edgesN M ∧ leastL L = leastL M) := by
  rw [likeL_codes hL hM hl]
  constructor
  · intro h
    obtain ⟨P, hP⟩ := List.exists_mem_of_ne_nil _ h
    obtain ⟨h1, h2⟩ := List.mem_filter.1 hP
    have hn := perms_names _ _ _ h1
    unfold okC at h2
    rw [beq_iff_eq] at h2
    have e := code_inj (named_graph hL hn) hM (by rw [namedL_length, hl]) h2
    rw [← e]
    exact ⟨(edges_named hL hn).symm, (least_named hL hn).symm⟩
  · rintro ⟨_, h⟩
    obtain ⟨P, hP, e1⟩ := least_is hL
    obtain ⟨Q, hQ, e2⟩ := least_is hM
    have e := code_inj (named_graph hL hP) (named_graph hM hQ) (by rw [namedL_length, namedL_length, hl]) (by rw [← e1, ← e2, h])
    have hQ' : Names L.length L.length Q := by rw [hl]; exact hQ
    have h1 := named_inv hM hQ
    rw [← e, ← hl, named_comp hL hP (inv_names hQ')] at h1
    refine List.ne_nil_of_mem (a := compP L.length P (invP L.length Q)) (List.mem_filter.2 ⟨perms_all _ _ _ (comp_names hP (inv_names hQ')), ?_⟩)
    unfold okC
    rw [h1, beq_self_eq_true]

end Go.Proofs.YtcemhepojjbcgaaDoor
