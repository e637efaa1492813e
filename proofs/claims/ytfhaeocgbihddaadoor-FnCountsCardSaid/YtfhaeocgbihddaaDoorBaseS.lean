/- Texts in one: SbMath, SetMath, Place, SeqO, Edges, EdgesIt, WithinFn, FitsFn, SbFn, OnesAll, AppOne, SizesFn, MaxMin, Less, OtherList, OtherIn, WatchFn, Bits, TryMath, NamedMath, NamesMath, NamesDef, Grid, PartMath, LikeDef, PermsMath, AlikeMath, Codes, Group, OtherGraph, SetFns, SpecSet, SpecFr. -/
import Derived.Test.YtfhaeocgbihddaaDoorBaseA
import Derived.RangeFuncNested
import Derived.RangeFuncBound
import Derived.RangeFuncCalls
import Derived.RangeFuncLeaves
import Derived.RangeFuncFrom
import Derived.RangeFuncBox
import Derived.Laws.Rows
import Derived.OwnWalkIn
import Derived.Laws.StructEq
import Derived.StillTailTactics

/- The subsets of a set of at most 15 members, one behind the other. Plain mathematics. -/

namespace Go.Proofs.YtfhaeocgbihddaaDoor
open Go Go.RowKit
set_option linter.unusedVariables false
set_option maxRecDepth 100000

theorem and_bits (a b : Nat) : a &&& b = 2 * (a / 2 &&& b / 2) + a % 2 * (b % 2) := by
  have h1 : (a &&& b) / 2 = a / 2 &&& b / 2 := Nat.and_div_two
  have h2 : (a &&& b) % 2 = a % 2 * (b % 2) := by
    rcases Nat.mod_two_eq_zero_or_one a with ha | ha <;> rcases Nat.mod_two_eq_zero_or_one b with hb | hb
    · have := Nat.and_mod_two_eq_one (a := a) (b := b); rw [ha, hb]; omega
    · have := Nat.and_mod_two_eq_one (a := a) (b := b); rw [ha, hb]; omega
    · have := Nat.and_mod_two_eq_one (a := a) (b := b); rw [ha, hb]; omega
    · have := Nat.and_mod_two_eq_one (a := a) (b := b); rw [ha, hb]; omega
  omega
theorem sub_half {C s : Nat} (h : s &&& C = s) : s / 2 &&& C / 2 = s / 2 ∧ s % 2 * (C % 2) = s % 2 := by
  have h1 := and_bits s C
  rw [h] at h1
  rcases Nat.mod_two_eq_zero_or_one s with hs | hs <;> rcases Nat.mod_two_eq_zero_or_one C with hc | hc <;> rw [hs, hc] at h1 ⊢ <;> constructor <;> omega
theorem sub_fill (k : Nat) : ∀ C s : Nat, C < 2 ^ k → s &&& C = s → (s + (2 ^ k - 1 - C)) &&& C = s := by
  induction k with
  | zero =>
    intro C s hC hs
    have : C = 0 := by simpa using hC
    subst this
    simp at hs ⊢
    omega
  | succ k ih =>
    intro C s hC hs
    obtain ⟨h1, h2⟩ := sub_half hs
    rw [Nat.pow_succ] at hC ⊢
    have h3 := ih (C / 2) (s / 2) (by omega) h1
    have hp : 1 ≤ 2 ^ k := Nat.one_le_two_pow
    obtain ⟨p, ep⟩ : ∃ p, p = 2 ^ k := ⟨_, rfl⟩
    rw [← ep] at hC hp h3 ⊢
    rw [and_bits]
    rcases Nat.mod_two_eq_zero_or_one s with hs2 | hs2 <;> rcases Nat.mod_two_eq_zero_or_one C with hc2 | hc2 <;> rw [hs2, hc2] at h2
    · have e : (s + (p * 2 - 1 - C)) / 2 = s / 2 + (p - 1 - C / 2) := by omega
      rw [e, h3, hc2]; omega
    · have e : (s + (p * 2 - 1 - C)) / 2 = s / 2 + (p - 1 - C / 2) := by omega
      have e2 : (s + (p * 2 - 1 - C)) % 2 = 0 := by omega
      rw [e, h3, hc2, e2]; omega
    · omega
    · have e : (s + (p * 2 - 1 - C)) / 2 = s / 2 + (p - 1 - C / 2) := by omega
      have e2 : (s + (p * 2 - 1 - C)) % 2 = 1 := by omega
      rw [e, h3, hc2, e2]; omega
theorem sub_le {C s : Nat} (h : s &&& C = s) : s ≤ C := by rw [← h]; exact Nat.and_le_right
theorem sub_next (k : Nat) : ∀ C s : Nat, C < 2 ^ k → s &&& C = s → s ≠ C → s < (s + 2 ^ k - C) &&& C := by
  induction k with
  | zero =>
    intro C s hC hs hne
    have : C = 0 := by simpa using hC
    subst this
    simp at hs
    exact absurd hs.symm hne
  | succ k ih =>
    intro C s hC hs hne
    obtain ⟨h1, h2⟩ := sub_half hs
    have hle := sub_le hs
    have hle2 := sub_le h1
    rw [Nat.pow_succ] at hC ⊢
    have hf := sub_fill k (C / 2) (s / 2) (by omega) h1
    have hi := ih (C / 2) (s / 2) (by omega) h1
    have hp : 1 ≤ 2 ^ k := Nat.one_le_two_pow
    obtain ⟨p, ep⟩ : ∃ p, p = 2 ^ k := ⟨_, rfl⟩
    rw [← ep] at hC hp hf hi ⊢
    rw [and_bits]
    rcases Nat.mod_two_eq_zero_or_one s with hs2 | hs2 <;> rcases Nat.mod_two_eq_zero_or_one C with hc2 | hc2 <;> rw [hs2, hc2] at h2
    · have e : (s + p * 2 - C) / 2 = s / 2 + p - C / 2 := by omega
      have := hi (by omega)
      rw [e]; omega
    · have e : (s + p * 2 - C) / 2 = s / 2 + (p - 1 - C / 2) := by omega
      have e2 : (s + p * 2 - C) % 2 = 1 := by omega
      rw [e, hf, hc2, e2]; omega
    · omega
    · have e : (s + p * 2 - C) / 2 = s / 2 + p - C / 2 := by omega
      have := hi (by omega)
      rw [e]; omega

/-- The next subset. -/
def nx (C s : Nat) : Nat := ((s + 32768 - C) % 32768) &&& C
theorem nx_facts {C s : Nat} (hC : C < 32768) (hs : s &&& C = s) (hne : s ≠ C) : s < nx C s ∧ nx C s &&& C = nx C s := by
  have hle := sub_le hs
  refine ⟨?_, ?_⟩
  · unfold nx
    rw [Nat.mod_eq_of_lt (by omega)]
    exact sub_next 15 C s hC hs hne
  · unfold nx
    rw [Nat.and_assoc, Nat.and_self]
def sbFrom (C : Nat) : Nat → Nat → List Nat
  | 0, s => [s]
  | f + 1, s => if s = C then [s] else s :: sbFrom C f (nx C s)
/-- All subsets of a set. -/
def sbL (C : Nat) : List Nat := sbFrom C 32768 0
theorem sbFrom_end (C f : Nat) : sbFrom C f C = [C] := by
  cases f with
  | zero => rfl
  | succ f => unfold sbFrom; rw [if_pos rfl]
theorem sbFrom_more {C s : Nat} (hC : C < 32768) (hs : s &&& C = s) (f : Nat) (hf : C - s ≤ f) (k : Nat) : sbFrom C (f + k) s = sbFrom C f s := by
  induction f generalizing s with
  | zero =>
    have hsC := sub_le hs
    have : s = C := by omega
    subst this
    rw [sbFrom_end, sbFrom_end]
  | succ f ih =>
    by_cases hne : s = C
    · subst hne; rw [sbFrom_end, sbFrom_end]
    · obtain ⟨h1, h2⟩ := nx_facts hC hs hne
      rw [show f + 1 + k = (f + k) + 1 by omega]
      unfold sbFrom
      rw [if_neg hne, if_neg hne, ih h2 (by omega)]
/-- What is still to come from a subset on. -/
def sbOf (C s : Nat) : List Nat := sbFrom C 32768 s
theorem sbOf_end (C : Nat) : sbOf C C = [C] := sbFrom_end _ _
theorem sbOf_next {C s : Nat} (hC : C < 32768) (hs : s &&& C = s) (hne : s ≠ C) : sbOf C s = s :: sbOf C (nx C s) := by
  obtain ⟨h1, h2⟩ := nx_facts hC hs hne
  have h3 := sbFrom_more hC h2 32767 (by omega) 1
  show sbFrom C (32767 + 1) s = s :: sbFrom C (32767 + 1) (nx C s)
  rw [h3]
  show (if s = C then [s] else s :: sbFrom C 32767 (nx C s)) = _
  rw [if_neg hne]
theorem sbL_eq (C : Nat) : sbL C = sbOf C 0 := rfl
theorem sbOf_len {C s : Nat} (hC : C < 32768) (hs : s &&& C = s) : (sbOf C s).length ≤ C - s + 1 ∧ 1 ≤ (sbOf C s).length := by
  have h : ∀ f s, s &&& C = s → C - s ≤ f → (sbFrom C f s).length ≤ C - s + 1 ∧ 1 ≤ (sbFrom C f s).length := fun f => by
    induction f with
    | zero => intro s _ _; simp [sbFrom]
    | succ f ih =>
      intro s hs hf
      unfold sbFrom
      split
      · simp
      · rename_i hne
        obtain ⟨h1, h2⟩ := nx_facts hC hs hne
        have hsC := sub_le hs
        have hnC := sub_le h2
        have := ih (nx C s) h2 (by omega)
        rw [List.length_cons]
        omega
  exact h 32768 s hs (by have := sub_le hs; omega)
theorem nx_op {C s : Nat} (hC : C < 32768) (hs : s ≤ C) : bits .and .i64 ((s : Int) - (C : Int)) (C : Int) = ((nx C s : Nat) : Int) := by
  have hz : (BitVec.ofInt 64 ((s : Int) - (C : Int))).toNat = (s + 18446744073709551616 - C) % 18446744073709551616 := by
    rw [BitVec.toNat_ofInt]; omega
  refine unword (BitVec.ofInt 64 ((s : Int) - (C : Int)) &&& BitVec.ofInt 64 (C : Int)) _ ?_ ?_
  · rw [BitVec.toNat_and, word C (by omega), hz]
    unfold nx
    refine Nat.eq_of_testBit_eq fun i => ?_
    rw [Nat.testBit_and, Nat.testBit_and]
    by_cases hi : i < 15
    · have e1 : ((s + 18446744073709551616 - C) % 18446744073709551616).testBit i = ((s + 32768 - C) % 32768).testBit i := by
        have h1 := Nat.testBit_mod_two_pow ((s + 18446744073709551616 - C) % 18446744073709551616) 15 i
        rw [show decide (i < 15) = true by simp; omega, Bool.true_and] at h1
        rw [← h1]
        congr 1
        show (s + 18446744073709551616 - C) % 18446744073709551616 % 32768 = (s + 32768 - C) % 32768
        omega
      rw [e1]
    · have : C.testBit i = false := Nat.testBit_lt_two_pow (Nat.lt_of_lt_of_le hC (by rw [show (32768 : Nat) = 2 ^ 15 by rfl]; exact Nat.pow_le_pow_right (by omega) (by omega)))
      rw [this, Bool.and_false, Bool.and_false]
  · unfold nx
    exact Nat.lt_of_le_of_lt Nat.and_le_right (by omega)
/-- All sets of at most six nodes. -/
theorem sbL_all : ∀ n : Fin 7, sbL (2 ^ n.val - 1) = List.range (2 ^ n.val) := by decide +kernel
/-- Just the subsets come. -/
theorem sb_mem {C : Nat} (hC : C < 32768) {t : Nat} : t ∈ sbL C → t &&& C = t := by
  have h : ∀ f s, s &&& C = s → t ∈ sbFrom C f s → t &&& C = t := fun f => by
    induction f with
    | zero => intro s hs hm; simp [sbFrom] at hm; rw [hm]; exact hs
    | succ f ih =>
      intro s hs hm
      unfold sbFrom at hm
      split at hm
      · simp at hm; rw [hm]; exact hs
      · rename_i hne
        rcases List.mem_cons.1 hm with rfl | hm
        · exact hs
        · exact ih _ (nx_facts hC hs hne).2 hm
  exact h 32768 0 (by simp)
end Go.Proofs.YtfhaeocgbihddaaDoor

/- Free sets, covers, watching sets: as the program and as the model tell them. Plain mathematics. -/


namespace Go.Proofs.YtfhaeocgbihddaaDoor
open Go Go.RowKit
set_option linter.unusedVariables false
set_option maxRecDepth 100000

theorem tb (x k : Nat) : (x / 2 ^ k % 2 = 1) ↔ x.testBit k = true := by rw [Nat.testBit_eq_decide_div_mod_eq, decide_eq_true_eq]
/-- A set has a node. -/
def inS (s v : Nat) : Bool := s.testBit v
theorem inS_iff {s v : Nat} : inS s v = true ↔ s / 2 ^ v % 2 = 1 := (tb s v).symm
theorem ends_iff (s a b : Nat) : s &&& (2 ^ a ||| 2 ^ b) = (2 ^ a ||| 2 ^ b) ↔ (inS s a = true ∧ inS s b = true) := by
  constructor
  · intro h
    have h1 := congrArg (fun x => x.testBit a) h
    have h2 := congrArg (fun x => x.testBit b) h
    simp only [Nat.testBit_and, Nat.testBit_or, Nat.testBit_two_pow_self, Bool.true_or, Bool.or_true, Bool.and_true] at h1 h2
    exact ⟨h1, h2⟩
  · rintro ⟨h1, h2⟩
    refine Nat.eq_of_testBit_eq fun i => ?_
    rw [Nat.testBit_and, Nat.testBit_or, Nat.testBit_two_pow, Nat.testBit_two_pow]
    by_cases ha : a = i
    · subst ha; unfold inS at h1; rw [h1]; simp
    · by_cases hb : b = i
      · subst hb; unfold inS at h2; rw [h2]; simp
      · simp [ha, hb]

/-- The model's free sets. -/
def freeB (L : List Int) (s : Nat) : Bool := (List.range L.length).all fun v => !(inS s v) || ent L v &&& s == 0
theorem meet_iff {L : List Int} {v s : Nat} : ent L v &&& s ≠ 0 ↔ ∃ w, bt L v w = 1 ∧ inS s w = true := by
  constructor
  · intro h
    obtain ⟨w, hw⟩ := Nat.exists_testBit_of_ne_zero h
    rw [Nat.testBit_and, Bool.and_eq_true] at hw
    exact ⟨w, (tb _ _).2 hw.1, hw.2⟩
  · rintro ⟨w, h1, h2⟩ h0
    have h3 := congrArg (fun x => x.testBit w) h0
    simp only [Nat.testBit_and, Nat.zero_testBit] at h3
    have h4 : (ent L v).testBit w = true := (tb _ _).1 h1
    unfold inS at h2
    rw [h4, h2] at h3
    cases h3
theorem upto_all (n : Nat) : ∀ a b, a < b → b < n → (a, b) ∈ rows n := by
  intro a b h1 h2
  simp only [rows, List.mem_flatMap, List.mem_range, List.mem_map]
  exact ⟨b, h2, a, h1, rfl⟩
theorem bt_lt {L : List Int} (hg : IsGraph L) {v w : Nat} (hv : v < L.length) (h : bt L v w = 1) : w < L.length := by
  have h1 := ent_lt (hg.2.2 v hv).1
  have h2 : (ent L v).testBit w = true := (tb _ _).1 h
  refine Nat.lt_of_not_le fun hl => ?_
  rw [Nat.testBit_lt_two_pow (Nat.lt_of_lt_of_le h1 (Nat.pow_le_pow_right (by omega) hl))] at h2
  cases h2
/-- The model's free sets are those with no edge in them. -/
theorem free_iff {L : List Int} (hg : IsGraph L) (s : Nat) : freeB L s = true ↔ ∀ p ∈ edgesIn L (rows L.length), ¬ (s &&& (2 ^ p.1 ||| 2 ^ p.2) = (2 ^ p.1 ||| 2 ^ p.2)) := by
  constructor
  · intro h p hp hin
    unfold edgesIn at hp
    rw [List.mem_filter] at hp
    obtain ⟨h1, h2⟩ := hp
    obtain ⟨h3, h4⟩ := rows_mem _ p h1
    rw [ends_iff] at hin
    have h5 := List.all_eq_true.1 h p.1 (List.mem_range.2 (by omega))
    rw [hin.1] at h5
    simp at h5 h2
    exact meet_iff.2 ⟨p.2, h2, hin.2⟩ h5
  · intro h
    refine List.all_eq_true.2 fun v hv => ?_
    rw [List.mem_range] at hv
    cases hi : inS s v with
    | false => rfl
    | true =>
      rw [Bool.not_true, Bool.false_or, beq_iff_eq]
      refine Classical.byContradiction fun hne => ?_
      obtain ⟨w, h1, h2⟩ := meet_iff.1 hne
      have hw := bt_lt hg hv h1
      have hvw : v ≠ w := fun e => by subst e; have := (hg.2.2 v hv).2.1; omega
      rcases Nat.lt_or_ge v w with hl | hl
      · refine h (v, w) ?_ ((ends_iff _ _ _).2 ⟨hi, h2⟩)
        unfold edgesIn
        rw [List.mem_filter]
        exact ⟨upto_all _ _ _ hl hw, by simpa using h1⟩
      · refine h (w, v) ?_ ((ends_iff _ _ _).2 ⟨h2, hi⟩)
        unfold edgesIn
        rw [List.mem_filter]
        refine ⟨upto_all _ _ _ (by omega) hv, ?_⟩
        have := (hg.2.2 v hv).2.2 w (by omega)
        simp
        omega
/-- The edges within a set, packed, as the program finds them. -/
def plN (p : Nat × Nat) : Nat := p.2 * (p.2 - 1) / 2 + p.1
def wthStep (s E : Nat) (p : Nat × Nat) : Nat := if s &&& (2 ^ p.1 ||| 2 ^ p.2) = (2 ^ p.1 ||| 2 ^ p.2) then E ||| 2 ^ plN p else E
def wth (s : Nat) (es : List (Nat × Nat)) : Nat := es.foldl (wthStep s) 0
theorem wth_snoc (s : Nat) (es : List (Nat × Nat)) (p : Nat × Nat) : wth s (es ++ [p]) = wthStep s (wth s es) p := by simp [wth]
theorem wth_zero (s : Nat) (es : List (Nat × Nat)) : wth s es = 0 ↔ ∀ p ∈ es, ¬ (s &&& (2 ^ p.1 ||| 2 ^ p.2) = (2 ^ p.1 ||| 2 ^ p.2)) := by
  induction es using snoc_ind with
  | h0 => simp [wth]
  | h1 l x ih =>
    rw [wth_snoc]
    unfold wthStep
    split
    · rename_i hx
      constructor
      · intro h0
        have h1 := congrArg (fun y => y.testBit (plN x)) h0
        simp [Nat.testBit_or, Nat.testBit_two_pow_self] at h1
      · intro h
        exact absurd hx (h x (by simp))
    · rename_i hx
      rw [ih]
      constructor
      · intro h p hp
        rcases List.mem_append.1 hp with hp | hp
        · exact h p hp
        · simp at hp; rw [hp]; exact hx
      · exact fun h p hp => h p (by simp [hp])
theorem free_wth {L : List Int} (hg : IsGraph L) (s : Nat) : (wth s (edgesIn L (rows L.length)) == 0) = freeB L s := by
  have h1 := free_iff hg s
  have h2 := wth_zero s (edgesIn L (rows L.length))
  rw [← h2] at h1
  rw [Bool.eq_iff_iff, beq_iff_eq]
  exact h1.symm
theorem plN_lt {n : Nat} (hn : n ≤ 6) {p : Nat × Nat} (h : p ∈ rows n) : plN p < 15 := by
  have : ∀ n : Fin 7, ∀ p ∈ rows n.val, plN p < 15 := by decide
  exact this ⟨n, by omega⟩ p h
theorem wth_lt {n s : Nat} (hn : n ≤ 6) {es : List (Nat × Nat)} (h : ∀ p ∈ es, p ∈ rows n) : wth s es < 32768 := by
  induction es using snoc_ind with
  | h0 => show 0 < 32768; decide
  | h1 l x ih =>
    rw [wth_snoc]
    unfold wthStep
    have h1 := ih fun p hp => h p (by simp [hp])
    split
    · exact Nat.or_lt_two_pow (n := 15) h1 (Nat.pow_lt_pow_right (by omega) (plN_lt hn (h x (by simp))))
    · exact h1

/-! ### greatest and least -/
def IsMax (l : List Nat) (m : Nat) : Prop := m ∈ l ∧ ∀ x ∈ l, x ≤ m
def IsMin (l : List Nat) (m : Nat) : Prop := m ∈ l ∧ ∀ x ∈ l, m ≤ x
/-- The sizes of the sets that fit. -/
def szs (P : Nat → Bool) (ss : List Nat) : List Nat := (ss.filter P).map (pcf 15)
theorem szs_snoc (P : Nat → Bool) (ss : List Nat) (s : Nat) : szs P (ss ++ [s]) = szs P ss ++ (if P s = true then [pcf 15 s] else []) := by
  unfold szs
  rw [List.filter_append, List.map_append]
  cases h : P s <;> simp [h]
theorem szs_mem {P : Nat → Bool} {ss : List Nat} {m : Nat} : m ∈ szs P ss ↔ ∃ s ∈ ss, P s = true ∧ pcf 15 s = m := by
  unfold szs
  rw [List.mem_map]
  constructor
  · rintro ⟨s, h1, h2⟩; rw [List.mem_filter] at h1; exact ⟨s, h1.1, h1.2, h2⟩
  · rintro ⟨s, h1, h2, h3⟩; exact ⟨s, List.mem_filter.2 ⟨h1, h2⟩, h3⟩
theorem szs_le {P : Nat → Bool} {ss : List Nat} : ∀ x ∈ szs P ss, x ≤ 15 := by
  intro x hx
  obtain ⟨s, _, _, rfl⟩ := szs_mem.1 hx
  exact pcf_le _ _
theorem szs_length (P : Nat → Bool) (ss : List Nat) : (szs P ss).length ≤ ss.length := by
  unfold szs
  rw [List.length_map]
  exact List.length_filter_le _ _
def mxStep (P : Nat → Bool) (m s : Nat) : Nat := if P s = true then max m (pcf 15 s) else m
def mnStep (P : Nat → Bool) (m s : Nat) : Nat := if P s = true then min m (pcf 15 s) else m
def mx (P : Nat → Bool) (ss : List Nat) : Nat := ss.foldl (mxStep P) 0
def mn (P : Nat → Bool) (m : Nat) (ss : List Nat) : Nat := ss.foldl (mnStep P) m
theorem mx_snoc (P : Nat → Bool) (ss : List Nat) (s : Nat) : mx P (ss ++ [s]) = mxStep P (mx P ss) s := by simp [mx]
theorem mn_snoc (P : Nat → Bool) (m : Nat) (ss : List Nat) (s : Nat) : mn P m (ss ++ [s]) = mnStep P (mn P m ss) s := by simp [mn]
theorem mx_facts (P : Nat → Bool) (ss : List Nat) : (mx P ss = 0 ∨ mx P ss ∈ szs P ss) ∧ ∀ x ∈ szs P ss, x ≤ mx P ss := by
  induction ss using snoc_ind with
  | h0 => simp [mx, szs]
  | h1 l s ih =>
    obtain ⟨h1, h2⟩ := ih
    rw [mx_snoc, szs_snoc]
    unfold mxStep
    cases hp : P s with
    | false => simp only [Bool.false_eq_true, if_false, List.append_nil]; exact ⟨h1, h2⟩
    | true =>
      simp only [if_true]
      refine ⟨?_, ?_⟩
      · rcases Nat.le_total (mx P l) (pcf 15 s) with hl | hl
        · rw [Nat.max_eq_right hl]; exact .inr (by simp)
        · rw [Nat.max_eq_left hl]
          rcases h1 with h | h
          · exact .inl h
          · exact .inr (List.mem_append_left _ h)
      · intro x hx
        rcases List.mem_append.1 hx with hx | hx
        · exact Nat.le_trans (h2 x hx) (Nat.le_max_left _ _)
        · simp at hx; rw [hx]; exact Nat.le_max_right _ _
theorem mn_facts (P : Nat → Bool) (m : Nat) (ss : List Nat) : (mn P m ss = m ∨ mn P m ss ∈ szs P ss) ∧ mn P m ss ≤ m ∧ ∀ x ∈ szs P ss, mn P m ss ≤ x := by
  induction ss using snoc_ind with
  | h0 => simp [mn, szs]
  | h1 l s ih =>
    obtain ⟨h1, h3, h2⟩ := ih
    rw [mn_snoc, szs_snoc]
    unfold mnStep
    cases hp : P s with
    | false => simp only [Bool.false_eq_true, if_false, List.append_nil]; exact ⟨h1, h3, h2⟩
    | true =>
      simp only [if_true]
      refine ⟨?_, Nat.le_trans (Nat.min_le_left _ _) h3, ?_⟩
      · rcases Nat.le_total (mn P m l) (pcf 15 s) with hl | hl
        · rw [Nat.min_eq_left hl]
          rcases h1 with h | h
          · exact .inl h
          · exact .inr (List.mem_append_left _ h)
        · rw [Nat.min_eq_right hl]; exact .inr (by simp)
      · intro x hx
        rcases List.mem_append.1 hx with hx | hx
        · exact Nat.le_trans (Nat.min_le_left _ _) (h2 x hx)
        · simp at hx; rw [hx]; exact Nat.min_le_right _ _
theorem mx_le (P : Nat → Bool) (ss : List Nat) : mx P ss ≤ 15 := by
  rcases (mx_facts P ss).1 with h | h
  · omega
  · exact szs_le _ h

/-! ### free sets and covers -/
def allS (n : Nat) : List Nat := List.range (2 ^ n)
/-- The greatest number of nodes of a free set. -/
def mostN (L : List Int) : Nat := mx (freeB L) (allS L.length)
theorem free_none (L : List Int) : freeB L 0 = true := by
  unfold freeB inS
  simp
theorem most_max (L : List Int) : IsMax (szs (freeB L) (allS L.length)) (mostN L) := by
  obtain ⟨h1, h2⟩ := mx_facts (freeB L) (allS L.length)
  refine ⟨?_, h2⟩
  rcases h1 with h | h
  · show mx _ _ ∈ _
    rw [h]
    exact szs_mem.2 ⟨0, List.mem_range.2 Nat.one_le_two_pow, free_none L, pcf_zero _⟩
  · exact h
/-- The nodes outside a set, as the program finds them. -/
def outS (N s : Nat) : Nat := N &&& (18446744073709551615 - s)
def outOk (n s : Nat) : Bool := !(decide (s < 2 ^ n)) || (decide (outS (2 ^ n - 1) s = 2 ^ n - 1 - s) && decide (pcf 15 (2 ^ n - 1 - s) + pcf 15 s = n))
theorem out_all : ∀ n : Fin 7, ∀ s : Fin 64, outOk n.val s.val = true := by decide +kernel
theorem out_facts {n s : Nat} (hn : n ≤ 6) (hs : s < 2 ^ n) : outS (2 ^ n - 1) s = 2 ^ n - 1 - s ∧ pcf 15 (2 ^ n - 1 - s) + pcf 15 s = n := by
  have h64 := two_le hn
  have h := out_all ⟨n, by omega⟩ ⟨s, by omega⟩
  unfold outOk at h
  dsimp only at h
  rw [decide_eq_true hs, Bool.not_true, Bool.false_or, Bool.and_eq_true, decide_eq_true_eq, decide_eq_true_eq] at h
  exact h
def coverB (L : List Int) (s : Nat) : Bool := freeB L (outS (2 ^ L.length - 1) s)
theorem cover_min {L : List Int} (hn : L.length ≤ 6) : mostN L ≤ L.length ∧ IsMin (szs (coverB L) (allS L.length)) (L.length - mostN L) := by
  obtain ⟨h1, h2⟩ := most_max L
  obtain ⟨t, ht, hf, hp⟩ := szs_mem.1 h1
  have hp2 := two_pos L.length
  have ht' : t < 2 ^ L.length := List.mem_range.1 ht
  obtain ⟨o1, o2⟩ := out_facts hn ht'
  refine ⟨by omega, ?_, ?_⟩
  · refine szs_mem.2 ⟨2 ^ L.length - 1 - t, List.mem_range.2 (by omega), ?_, by omega⟩
    obtain ⟨o3, _⟩ := out_facts hn (show 2 ^ L.length - 1 - t < 2 ^ L.length by omega)
    unfold coverB
    rw [o3, show 2 ^ L.length - 1 - (2 ^ L.length - 1 - t) = t by omega]
    exact hf
  · intro x hx
    obtain ⟨s, hs, hc, rfl⟩ := szs_mem.1 hx
    have hs' : s < 2 ^ L.length := List.mem_range.1 hs
    obtain ⟨o3, o4⟩ := out_facts hn hs'
    unfold coverB at hc
    rw [o3] at hc
    have := h2 _ (szs_mem.2 ⟨2 ^ L.length - 1 - s, List.mem_range.2 (by omega), hc, rfl⟩)
    omega

/-! ### watching sets -/
def metStep (L : List Int) (s m v : Nat) : Nat := if inS s v = true then m ||| ent L v else m
/-- The nodes that are met up to some place. -/
def metTo (L : List Int) (s k : Nat) : Nat := (List.range k).foldl (metStep L s) s
theorem metTo_succ (L : List Int) (s k : Nat) : metTo L s (k + 1) = metStep L s (metTo L s k) k := by simp [metTo, List.range_succ]
def watB (L : List Int) (s : Nat) : Bool := metTo L s L.length == 2 ^ L.length - 1
theorem metTo_lt {L : List Int} (hg : IsGraph L) {s : Nat} (hs : s < 2 ^ L.length) (k : Nat) (hk : k ≤ L.length) : metTo L s k < 2 ^ L.length := by
  induction k with
  | zero => exact hs
  | succ k ih =>
    rw [metTo_succ]
    unfold metStep
    split
    · exact Nat.or_lt_two_pow (ih (by omega)) (ent_lt (hg.2.2 k (by omega)).1)
    · exact ih (by omega)
theorem metTo_has {L : List Int} {s : Nat} (k i : Nat) (h : s.testBit i = true) : (metTo L s k).testBit i = true := by
  induction k with
  | zero => exact h
  | succ k ih =>
    rw [metTo_succ]
    unfold metStep
    split
    · rw [Nat.testBit_or, ih, Bool.true_or]
    · exact ih
theorem wat_all {L : List Int} (hg : IsGraph L) : watB L (2 ^ L.length - 1) = true := by
  unfold watB
  rw [beq_iff_eq]
  have hp := two_pos L.length
  have hl := metTo_lt hg (s := 2 ^ L.length - 1) (by omega) L.length (Nat.le_refl _)
  refine Nat.eq_of_testBit_eq fun i => ?_
  by_cases hi : i < L.length
  · have h1 : (2 ^ L.length - 1).testBit i = true := by rw [Nat.testBit_two_pow_sub_one]; simpa using hi
    rw [metTo_has _ _ h1, h1]
  · have e : 2 ^ L.length ≤ 2 ^ i := Nat.pow_le_pow_right (by omega) (by omega)
    rw [Nat.testBit_lt_two_pow (by omega), Nat.testBit_lt_two_pow (by omega)]
def watchN (L : List Int) : Nat := mn (watB L) L.length (allS L.length)
theorem watch_min {L : List Int} (hg : IsGraph L) : watchN L ≤ 6 ∧ IsMin (szs (watB L) (allS L.length)) (watchN L) := by
  obtain ⟨h1, h3, h2⟩ := mn_facts (watB L) L.length (allS L.length)
  have hp := two_pos L.length
  refine ⟨Nat.le_trans h3 hg.2.1, ?_, h2⟩
  rcases h1 with h | h
  · show mn _ _ _ ∈ _
    rw [h]
    obtain ⟨_, o⟩ := out_facts hg.2.1 (show 2 ^ L.length - 1 < 2 ^ L.length by omega)
    refine szs_mem.2 ⟨2 ^ L.length - 1, List.mem_range.2 (by omega), wat_all hg, ?_⟩
    rw [Nat.sub_self, pcf_zero] at o
    omega
  · exact h

/-! ### numbers of free sets -/
def cntStep (l : List Nat) (k : Nat) : List Nat := l.set k (l[k]?.getD 0 + 1)
/-- Some sizes counted. -/
def cntR (m : Nat) (ks : List Nat) : List Nat := ks.foldl cntStep (List.replicate m 0)
theorem cntR_snoc (m : Nat) (ks : List Nat) (k : Nat) : cntR m (ks ++ [k]) = cntStep (cntR m ks) k := by simp [cntR]
theorem cntR_length (m : Nat) (ks : List Nat) : (cntR m ks).length = m := by
  induction ks using snoc_ind with
  | h0 => simp [cntR]
  | h1 l x ih => rw [cntR_snoc]; unfold cntStep; rw [List.length_set, ih]
theorem cntR_le (m : Nat) (ks : List Nat) (i : Nat) : (cntR m ks)[i]?.getD 0 ≤ ks.length := by
  induction ks using snoc_ind with
  | h0 =>
    unfold cntR
    simp only [List.foldl_nil, List.length_nil, List.getElem?_replicate]
    split <;> simp
  | h1 l x ih =>
    rw [cntR_snoc, List.length_append]
    unfold cntStep
    rw [List.getElem?_set]
    split
    · rename_i e
      subst e
      split
      · simp; omega
      · simp
    · omega
def countsL (L : List Int) : List Int := ints (cntR (mostN L + 1) (szs (freeB L) (allS L.length)))
end Go.Proofs.YtfhaeocgbihddaaDoor

/- The place of a pair. -/


namespace Go.Proofs.YtfhaeocgbihddaaDoor
open Go Go.RowKit Go.Shelf
attribute [local go_sem] Oper.semAt_some
set_option linter.unusedVariables false
set_option maxRecDepth 100000

set_option maxHeartbeats 1000000 in
theorem place_any (a b : Nat) (ha : a ≤ 6) (h1 : 1 ≤ b) (hb : b ≤ 5) (w : World) : Calls Tryd.prog 79 #[.int .i64 a, .int .i64 b] w fun e w' => e = .returned (.int .i64 ((b * (b - 1) / 2 + a : Nat) : Int)) ∧ w = w' := by
  have hc : b = 1 ∨ b = 2 ∨ b = 3 ∨ b = 4 ∨ b = 5 := by omega
  clear h1 hb
  rcases hc with rfl | rfl | rfl | rfl | rfl
  all_goals
    go_enter Tryd.func79, Tryd.ntmps79
    go_wp2
    go_ret
    refine ⟨ret_int ?_, rfl⟩
    try simp
    try (unfold wrap64; omega)
end Go.Proofs.YtfhaeocgbihddaaDoor

/- A loop over an iterator whose own text is a loop over another iterator: the contract for such an iterator, and what a caller owes. -/






namespace Go.Proofs.YtfhaeocgbihddaaDoor
open Go.RowKit Go.Shelf
set_option linter.unusedVariables false

/-- Some blocks lie as they lay. -/
def Lie (b d : Nat) (A B : World) : Prop := ∀ (k : Nat) (o : Obj), b ≤ k → k < b + d → A.heap[k]? = some o → B.heap[k]? = some o
theorem Lie.trans {b d : Nat} {A B C : World} (h : Lie b d A B) (k : Lie b d B C) : Lie b d A C := fun i o h1 h2 h3 => k i o h1 h2 (h i o h1 h2 h3)
theorem lie_put {b d : Nat} {W : World} {l : Nat} (o' : Obj) (h : l < b) : Lie b d W (W.putObj l o') := fun k o h1 _ h3 => (World.putObj_heap_other (by omega)).trans h3

/-- The iterator lays blocks of its own while it runs (d of them first): the caller's facts abide them, and a round leaves them alone. -/
def Outer (d : Nat) {α : Type} (F : Fence) (n : Nat) (P : Program) (g : Nat) (lb : Array Value) (encs : α → Array Value) (Kp : World → World → Prop) (S Sp : List α → Prop) (N : Nat) (w : World) : Prop :=
  ∀ (l : Nat) (J Jx : List α → World → Prop) (W : World), Below w.heap.size w W → OwnFrom W.heap.size J → OwnFrom W.heap.size Jx →
    (∀ pre x W1, J pre W1 → pre.length < N → YieldAt F (n - 1) P l (encs x) W1 fun e W' =>
      (e = .returned (.bool true) ∧ J (pre ++ [x]) W' ∧ Kp W1 W' ∧ KeepsFrom W.heap.size W1 W' ∧ Lie W.heap.size d W1 W') ∨ (e = .returned (.bool false) ∧ Jx (pre ++ [x]) W' ∧ KeepsFrom W.heap.size W1 W' ∧ Lie W.heap.size d W1 W')) →
    J [] W →
    CallsIn F n P g (#[.func (.yield l) #[] #[]] ++ lb) W fun e W' => (∃ v, e = .returned v) ∧ ((∃ xs, S xs ∧ J xs W') ∨ (∃ pre, Sp pre ∧ Jx pre W'))

theorem keepsFrom_put {B : Nat} {W : World} {l : Nat} (o' : Obj) (h : l < B) : KeepsFrom B W (W.putObj l o') :=
  KeepsFrom.of_grownBy (grownBy_putObj' W l o') (fun j e => by cases e; exact h)
theorem keepsFrom_up {B B' : Nat} {W W' : World} (h : KeepsFrom B W W') (hb : B ≤ B') : KeepsFrom B' W W' := ⟨h.size, fun k o hk => h.same k o (Nat.le_trans hb hk)⟩

variable {F : Fence} {n : Nat} {P : Program}

/-- What a caller of such an iterator owes. -/
theorem wpIn_outer {α : Type} {g : Operand} {ps : Array Tmp} {assign body : Code} {Q : Exit → Act → World → Prop} {a : Act} {w : World}
    (hro : F.round = none) (h1 : 1 ≤ n) {gf : Nat} {lb : Array Value} (hg : a.eval g = .func (.func gf) #[] lb) (hFg : F.fn gf) (eg : ∀ args w, (callFunc gf args).run P w = .ok (.enter gf args) w)
    {encs : α → Array Value} {Kp : World → World → Prop} {S Sp : List α → Prop} {N : Nat} {w0 : World} {d : Nat} (hseq : Outer d F (n - 1) P gf lb encs Kp S Sp N w0)
    (hKt : ∀ {A B C : World}, Kp A B → Kp B C → Kp A C) (hKb : ∀ (W : World) (l : Nat) (o o' : Obj), w.heap.size ≤ l → W.heap[l]? = some o → o.isCells = false → o.isWalk = false → Kp W (W.putObj l o')) (hb0 : Below w0.heap.size w0 w) (hps : ∀ x, (encs x).size = ps.size)
    (I : List α → World → Prop) (Ix : Code → List α → World → Prop) (hI : OwnFrom w.heap.size I) (hIx : ∀ c, OwnFrom w.heap.size (Ix c)) (h0 : I [] w) (a₁ : α → Act)
    (hassign : ∀ (l : Nat) (x : α) (W : World) (K : Act → World → Prop), K (a₁ x) W →
      assign.wpIn (F.inRound l) (n - 1 - 1) P (Exit.then K (fun _ _ _ => False)) { tmps := (ps.zip (encs x)).foldl (fun t (p, v) => t.setIfInBounds p v) a.tmps, defers := [] } W)
    (hbody : ∀ (l : Nat) (pre : List α) (x : α) (W : World), I pre W → pre.length < N → body.wpIn (F.inRound l) (n - 1 - 1) P (fun e a' Z => ownPostG w.heap.size Kp I Ix (pre ++ [x]) W e a' Z ∧ Lie (w.heap.size + 2) d W Z) (a₁ x) W)
    (hdone : ∀ (D : Nat) (xs : List α) (W : World), w.heap.size ≤ D → S xs → I xs W → W.heap[D]? = some (.deferred (some [])) → Q .normal { a with defers := { target := .collected D, args := #[] } :: a.defers } W)
    (hstop : ∀ (D : Nat) (c : Code) (pre : List α) (W : World), w.heap.size ≤ D → Sp pre → Ix c pre W → W.heap[D]? = some (.deferred (some [])) → c.wpIn F n P Q { a with defers := { target := .collected D, args := #[] } :: a.defers } W) :
    (Code.rangeFunc g ps assign body).wpIn F n P Q a w := by
  refine wpIn_rangeFunc ?_
  intro fn hfn
  rw [hro]
  -- the loop's record, in one of its states
  obtain ⟨m, hm⟩ : ∃ m, m = w.heap.size := ⟨_, rfl⟩
  obtain ⟨at_, hat⟩ : ∃ at_ : LoopState → Option Code → Obj, at_ = fun st pe => .loop { state := st, pending := pe, fn, tmps := a.tmps, params := ps, assign, body, defers := m } := ⟨_, rfl⟩
  obtain ⟨V, hV⟩ : ∃ V, V = (w.alloc (.deferred (some []))).alloc (at_ .ready none) := ⟨_, rfl⟩
  have sV : V.heap.size = m + 2 := by rw [hV, hm]; simp
  have rV : V.heap[m + 1]? = some (at_ .ready none) := by
    have e := World.alloc_heap_new (w.alloc (.deferred (some []))) (at_ .ready none)
    rw [World.size_alloc, ← hm] at e
    rw [hV]; exact e
  have dV : V.heap[m]? = some (.deferred (some [])) := by
    rw [hV, hm]; exact (Below.heap_alloc _ _ _ (by simp)).trans (World.alloc_heap_new w _)
  have iV : I [] V := by rw [hV]; exact hI.alloc _ (hI.alloc _ h0)
  have bV : Below w0.heap.size w0 V := by
    rw [hV]; exact hb0.trans ((((Below.refl _ w).alloc (Nat.le_refl _) _).alloc (by simp) _).mono hb0.size)
  refine ⟨m + 1, [{ target := .collected m, args := #[] }], V, { target := .fn (.func gf) lb, args := #[.func (.yield (m + 1)) #[] #[]] }, V, gf, #[.func (.yield (m + 1)) #[] #[]] ++ lb, V, ?_, ?_, ?_, ?_, fun _ => h1, ?_⟩
  · rw [hV, hat, hm]; exact run_enterLoop_outer _ _ _ _ _
  · simp only [resolve, hg]
    simp [go_sem]
  · intro f' hf'; simp [Target.leads] at hf'; subst hf'; exact hFg
  · simp [invoke, go_sem, eg]
  · rw [← hm] at hI hIx hbody hdone hstop hKb
    have up : ∀ {row : Option Nat} {A : World}, (∀ r, row = some r → V.heap.size ≤ r ∧ ∃ o : Obj, A.heap[r]? = some o ∧ o.isCells = false) → (∀ r, row = some r → m ≤ r ∧ ∃ o : Obj, A.heap[r]? = some o ∧ o.isCells = false) :=
      fun h r e => ⟨by have := (h r e).1; omega, (h r e).2⟩
    have far : ∀ {row : Option Nat} {A B : World} {k : Nat} {o : Obj}, A.grownBy B row → (∀ r, row = some r → V.heap.size ≤ r ∧ ∃ o : Obj, A.heap[r]? = some o ∧ o.isCells = false) → k < m + 2 → A.heap[k]? = some o → B.heap[k]? = some o :=
      fun hgr h hk e => (hgr.block _ (Array.getElem?_eq_some_iff.1 e).1 (fun e' => by have := (h _ e'.symm).1; omega)).trans e
    refine (hseq (m + 1) (fun pre W => I pre W ∧ W.heap[m + 1]? = some (at_ .ready none) ∧ W.heap[m]? = some (.deferred (some [])))
      (fun pre W => ∃ c, Ix c pre W ∧ W.heap[m + 1]? = some (at_ .done (some c)) ∧ W.heap[m]? = some (.deferred (some []))) V bV
      (fun s A B row hs hgr hr => ⟨hI s A B row hs.1 hgr (up hr), far hgr hr (by omega) hs.2.1, far hgr hr (by omega) hs.2.2⟩)
      (fun s A B row hs hgr hr => by
        obtain ⟨c, q1, q2, q3⟩ := hs
        exact ⟨c, hIx c s A B row q1 hgr (up hr), far hgr hr (by omega) q2, far hgr hr (by omega) q3⟩)
      ?_ ⟨iV, rV, dV⟩).mono ?_
    · -- a round
      rintro pre x W ⟨hi, hl, hd⟩ hlen
      have hlt : m + 1 < W.heap.size := (Array.getElem?_eq_some_iff.1 hl).1
      have hl' := hl
      rw [hat] at hl'
      have hy := run_yield (P := P) (args := encs x) hl' (by exact hps x)
      refine ⟨fn, _, assign, body, hy, roundIn_of_wpIn hfn (hassign _ x W _ ⟨_, run_beginRound hl' rfl, ?_⟩)⟩
      obtain ⟨U, hU⟩ : ∃ U, U = W.putObj (m + 1) (at_ .busy none) := ⟨_, rfl⟩
      have rU : U.heap[m + 1]? = some (at_ .busy none) := by rw [hU]; exact World.putObj_heap_same hlt
      have dU : U.heap[m]? = some (.deferred (some [])) := by rw [hU]; exact (World.putObj_heap_other (by omega)).trans hd
      have kU : Kp W U := by rw [hU]; exact hKb _ _ _ _ (by omega) hl (by rw [hat]; rfl) (by rw [hat]; rfl)
      have iU : I pre U := by rw [hU]; exact hI.putObj _ hi (by omega) hl (by rw [hat]; rfl)
      have fU : KeepsFrom V.heap.size W U := by rw [hU]; exact keepsFrom_put _ (by omega)
      have lU : Lie V.heap.size d W U := by rw [hU]; exact lie_put _ (by omega)
      have eU : W.putObj (m + 1) (.loop { state := .busy, pending := none, fn, tmps := a.tmps, params := ps, assign, body, defers := m }) = U := by rw [hU, hat]
      show body.wpIn _ _ _ _ _ (W.putObj (m + 1) (.loop { state := .busy, pending := none, fn, tmps := a.tmps, params := ps, assign, body, defers := m }))
      rw [eU]
      refine wpIn_mono (hbody _ pre x U iU hlen) ?_
      have fin : ∀ (jump : Option Code) (Z : World), KeepsFrom m U Z → Lie (m + 2) d U Z →
          (Instr.endRound (m + 1) jump).run P Z = .ok (.bool jump.isNone) (Z.putObj (m + 1) (at_ (if jump.isNone then .ready else .done) jump)) ∧ Z.heap[m + 1]? = some (at_ .busy none) ∧
          (Z.putObj (m + 1) (at_ (if jump.isNone then .ready else .done) jump)).heap[m + 1]? = some (at_ (if jump.isNone then .ready else .done) jump) ∧
          (Z.putObj (m + 1) (at_ (if jump.isNone then .ready else .done) jump)).heap[m]? = some (.deferred (some [])) ∧ KeepsFrom V.heap.size W (Z.putObj (m + 1) (at_ (if jump.isNone then .ready else .done) jump)) ∧ Lie V.heap.size d W (Z.putObj (m + 1) (at_ (if jump.isNone then .ready else .done) jump)) := fun jump Z hk hz => by
        have h3 := hk.same _ _ (by omega) rU (by rw [hat]; rfl)
        have h4 := h3
        rw [hat] at h4
        have h5 := run_endRound (P := P) jump h4
        refine ⟨by rw [hat]; exact h5, h3, World.putObj_heap_same (Array.getElem?_eq_some_iff.1 h3).1, (World.putObj_heap_other (by omega)).trans (hk.same _ _ (Nat.le_refl _) dU rfl), (fU.trans (keepsFrom_up hk (by omega))).trans (keepsFrom_put _ (by omega)), (lU.trans (by rw [sV]; exact hz)).trans (lie_put _ (by omega))⟩
      rintro e a3 Z ⟨hp, hz⟩
      cases e with
      | normal =>
        obtain ⟨k1, k2, k3⟩ := hp
        obtain ⟨r1, r2, r3, r4, r5, r6⟩ := fin none Z k1 hz
        exact ⟨_, _, r1, .inl ⟨rfl, ⟨hI.putObj _ k3 (by omega) r2 (by rw [hat]; rfl), r3, r4⟩, hKt (hKt kU k2) (hKb _ _ _ _ (by omega) r2 (by rw [hat]; rfl) (by rw [hat]; rfl)), r5, r6⟩⟩
      | ret =>
        obtain ⟨k1, k3⟩ := hp
        obtain ⟨r1, r2, r3, r4, r5, r6⟩ := fin (some .ret) Z k1 hz
        exact ⟨_, _, r1, .inr ⟨rfl, ⟨.ret, (hIx _).putObj _ k3 (by omega) r2 (by rw [hat]; rfl), r3, r4⟩, r5, r6⟩⟩
      | exit id =>
        obtain ⟨k1, k3⟩ := hp
        obtain ⟨r1, r2, r3, r4, r5, r6⟩ := fin (some (.exit id)) Z k1 hz
        exact ⟨_, _, r1, .inr ⟨rfl, ⟨.exit id, (hIx _).putObj _ k3 (by omega) r2 (by rw [hat]; rfl), r3, r4⟩, r5, r6⟩⟩
      | goto t =>
        obtain ⟨k1, k3⟩ := hp
        obtain ⟨r1, r2, r3, r4, r5, r6⟩ := fin (some (.goto t)) Z k1 hz
        exact ⟨_, _, r1, .inr ⟨rfl, ⟨.goto t, (hIx _).putObj _ k3 (by omega) r2 (by rw [hat]; rfl), r3, r4⟩, r5, r6⟩⟩
      | panic ch => exact hp.elim
      | outgrown => exact hp.elim
    · -- behind the iterator
      rintro e Z ⟨⟨v, rfl⟩, (⟨xs, hS, hi, hl, hd⟩ | ⟨pre, hSp, c, hi, hl, hd⟩)⟩
      · have hl' := hl
        rw [hat] at hl'
        exact ⟨none, _, run_endLoop (P := P) hl' (by simp), hdone m xs _ (Nat.le_refl _) hS (hI.putObj _ hi (by omega) hl (by rw [hat]; rfl)) ((World.putObj_heap_other (by omega)).trans hd)⟩
      · have hl' := hl
        rw [hat] at hl'
        exact ⟨some c, _, run_endLoop (P := P) hl' (by simp), hstop m c pre _ (Nat.le_refl _) hSp ((hIx c).putObj _ hi (by omega) hl (by rw [hat]; rfl)) ((World.putObj_heap_other (by omega)).trans hd)⟩
end Go.Proofs.YtfhaeocgbihddaaDoor

/- The program's iterator over the edges of a graph. -/




namespace Go.Proofs.YtfhaeocgbihddaaDoor
open Go.RowKit Go.Shelf
attribute [local go_sem] Oper.semAt_some
set_option linter.unusedVariables false

/-- What a round over the edges keeps: the graph's box, and the graph. -/
def KeepG (B : Nat) (A : Option Addr) (c n : Nat) (L : List Int) (X Y : World) : Prop :=
  (Boxed X B 34 (.slice A n c) → Boxed Y B 34 (.slice A n c)) ∧ (Seen X A L → Seen Y A L)
/-- The edges among some pairs. -/
def edgesOf {m : Nat} (L : List Int) (l : List (Pr m)) : List (Pr m) := l.filter (fun x => bt L x.1.1 x.1.2 == 1)

theorem edgesOf_snoc {m : Nat} (L : List Int) (l : List (Pr m)) (x : Pr m) : edgesOf L (l ++ [x]) = edgesOf L l ++ (if bt L x.1.1 x.1.2 = 1 then [x] else []) := by
  unfold edgesOf
  rw [List.filter_append]
  by_cases h : bt L x.1.1 x.1.2 = 1 <;> simp [h]
theorem edgesOf_length {m : Nat} (L : List Int) (l : List (Pr m)) : (edgesOf L l).length ≤ l.length := List.length_filter_le _ _
theorem seen_own {β : Type} (A : Option Addr) (L : List Int) : Own (fun (_ : β) W => Seen W A L) := fun s X Y row hs hg hr k hk => by
  obtain ⟨b, off, hA, hlt, hc⟩ := hs k hk
  have e : Y.heap[b]? = X.heap[b]? := hg.block b hlt (fun e => by
    obtain ⟨o, ho, hco⟩ := hr b e.symm
    cases o <;> simp [World.cell?, ho, Obj.isCells] at hc hco)
  exact ⟨b, off, hA, Nat.lt_of_lt_of_le hlt hg.size, by unfold World.cell? at hc ⊢; dsimp only at hc ⊢; rw [e]; exact hc⟩
theorem ownFrom_up {β : Type} {B B' : Nat} {I : β → World → Prop} (h : OwnFrom B I) (hb : B ≤ B') : OwnFrom B' I := fun s X Y row hs hg hr => h s X Y row hs hg (fun r e => ⟨Nat.le_trans hb (hr r e).1, (hr r e).2⟩)
theorem ownFrom_map {β γ : Type} {B : Nat} {I : β → World → Prop} (h : OwnFrom B I) (f : γ → β) : OwnFrom B (fun s W => I (f s) W) := fun s X Y row hs hg hr => h (f s) X Y row hs hg hr

theorem roundIn_wide {n m : Nat} {P : Program} {l l2 : Nat} {f : FuncId} {tmps : Array Value} {assign body : Code} {w : World} {R : Ending → World → Prop} (h : RoundIn Fence.wide n P l f tmps assign body w R) : RoundIn (Fence.wide.inRound l2) m P l f tmps assign body w R :=
  ⟨h.1, fun c cs hr => h.2 c cs (by simp [Fence.room, Fence.wide])⟩

set_option maxRecDepth 100000 in
set_option maxHeartbeats 2000000 in
theorem edges_stops (A : Option Addr) (c : Nat) (L : List Int) (n : Nat) (hn : n = L.length) (hg : IsGraph L) (B : Nat) (w : World) (hB : B < w.heap.size) (hb : Boxed w B 34 (.slice A n c)) (hs : Seen w A L) :
    Outer 2 Fence.wide 5 Tryd.prog 73 #[.pointer (some ⟨B, 0, none⟩)] (encP n) (KeepG B A c n L) (fun xs => ∃ ys : List (Pr n), vals ys = rows n ∧ xs = edgesOf L ys) (fun _ => True) 15 w := fun l J Jx W hbW hJ hJx hY h0 => by
  have h1 := hg.1
  have h6 := hg.2.1
  obtain ⟨blk, off, hA0, hbl0, _⟩ := hs 0 (by omega)
  have hb1 : Boxed W B 34 (.slice A n c) := (hbW.block B hB).trans hb
  have hs1 : Seen W A L := hs.below hbW
  have HY := Lib.hid hY
  have HG := Lib.hid hg
  have HJ := Lib.hid hJ
  have HX := Lib.hid hJx
  clear hY hJ hJx hbW hg
  subst hA0
  rw [← hn] at h1 h6
  have HN := Lib.hid hn
  clear hn
  have x0 : ∀ o, (W.alloc o).cell? ⟨B, 0, none⟩ = some (.slice (some ⟨blk, off, none⟩) n c) := fun o => (hb1.alloc o).cell
  refine callsIn_of_wp_marks Tryd.func73 rfl trivial ?_ rfl
  simp only [Tryd.ntmps73, List.size_toArray, List.length_cons, List.length_nil, Nat.reduceAdd, Nat.reduceSub, Array.replicate_succ, Array.replicate_zero, List.push_toArray, List.append_toArray, List.nil_append, List.cons_append]
  gi_wp2_with (refine ⟨trivial, ?_⟩; gi_at_call 71; refine (callsIn_wide.2 (pairs_any n _)).mono ?_; rintro e w' ⟨rfl, rfl⟩)
  obtain ⟨W1, e1⟩ : ∃ W1, W1 = (W.alloc (.cells #[.func (.yield l) #[] #[]] 64)).alloc (.cells #[.int .i64 n] 3) := ⟨_, rfl⟩
  have s1 : W1.heap.size = W.heap.size + 2 := by rw [e1]; simp
  have i1 : J [] W1 := by rw [e1]; exact HJ.out.alloc _ (HJ.out.alloc _ h0)
  have y1 : Boxed W1 W.heap.size 64 (.func (.yield l) #[] #[]) := by rw [e1]; exact (Boxed.new W _ _).alloc _
  have g1 : Boxed W1 B 34 (.slice (some ⟨blk, off, none⟩) n c) := by rw [e1]; exact (hb1.alloc _).alloc _
  have q1 : Seen W1 (some ⟨blk, off, none⟩) L := hs1.below (by rw [e1]; exact ((Below.refl _ W).alloc (Nat.le_refl _) _).alloc (by simp) _)
  have m1 : W1.cell? ⟨W.heap.size + 1, 0, none⟩ = some (.int .i64 n) := by
    rw [e1]; have h := Boxed.new (W.alloc (.cells #[.func (.yield l) #[] #[]] 64)) 3 (.int .i64 n); rw [World.size_alloc] at h; exact h.cell
  rw [← e1]
  clear e1 x0
  obtain ⟨M, eM⟩ : ∃ M, M = W.heap.size := ⟨_, rfl⟩
  have hBM : B < M := by rw [eM]; exact hb1.lt
  rw [← eM] at s1 y1 m1 HJ HX HY ⊢
  clear eM
  refine wpIn_rangeFunc_ownG (α := Pr n) rfl (by omega) (gf := 80) (lb := #[.pointer (some ⟨M + 1, 0, none⟩)]) rfl trivial (enters_of Tryd.func80 (by kernel_rfl) rfl)
    (pairs_stops Fence.wide _ trivial rfl (by omega) (M + 1) n h6 W1 (by omega) m1) (fun _ _ => trivial) (fun _ _ _ _ _ _ _ _ => trivial) (Below.refl _ _) (fun _ => rfl)
    (fun pre Z => J (edgesOf L pre) Z ∧ (Boxed Z M 64 (.func (.yield l) #[] #[]) ∧ (Boxed Z B 34 (.slice (some ⟨blk, off, none⟩) n c) ∧ Seen Z (some ⟨blk, off, none⟩) L)))
    (fun cd pre Z => cd = .ret ∧ Jx (edgesOf L pre) Z)
    (OwnFrom.and (ownFrom_map (ownFrom_up HJ.out (by omega)) _) (OwnFrom.and (Own.from (boxed_own _ _ _) _) (OwnFrom.and (Own.from (boxed_own _ _ _) _) (Own.from (seen_own _ _) _))))
    (fun cd => OwnFrom.and (ownFrom_pure _ _) (ownFrom_map (ownFrom_up HX.out (by omega)) _))
    ⟨i1, y1, g1, q1⟩
    (fun x => { tmps := #[.func (.yield l) #[] #[], .pointer (some ⟨B, 0, none⟩), .pointer (some ⟨M, 0, none⟩), .int .i64 (x.1.1 : Int), .int .i64 (x.1.2 : Int), .slice (some ⟨blk, off, none⟩) n c, .int .i64 n,
      .func (.func 80) #[] #[.pointer (some ⟨M + 1, 0, none⟩)], .int .i64 (x.1.1 : Int), .int .i64 (x.1.2 : Int), undef, undef, undef, undef, undef, undef, undef, undef, undef, undef, undef], defers := [] }) ?assign ?body ?done ?stop
  case assign =>
    intro l x W K hK
    gi_wp2
    exact hK
  case body =>
    rintro l2 pre x Wr ⟨hj, hy, hgr, hse⟩ hlen
    obtain ⟨⟨u, v⟩, hu, hv⟩ := x
    dsimp only at hu hv ⊢
    have hsn := edgesOf_snoc L pre (⟨(u, v), hu, hv⟩ : Pr n)
    dsimp only at hsn
    obtain ⟨blk1, off1, hA1, hbl1, hc1⟩ := hse u (by have := HN.out; omega)
    have e1 : blk = blk1 ∧ off = off1 := by injection hA1 with e; injection e with e1 e2; exact ⟨e1, e2⟩
    obtain ⟨rfl, rfl⟩ := e1
    have hin := (HG.out.2.2 u (by have := HN.out; omega)).1
    have hX := ent_int hin
    have hXl := ent_lt hin
    have h64 := two_le (n := L.length) (by have := HN.out; omega)
    unfold bt at hsn
    obtain ⟨X, eX⟩ : ∃ X, X = ent L u := ⟨_, rfl⟩
    rw [← eX] at hX hXl hsn
    rw [hX] at hc1
    have hXs : X < 1048576 := by omega
    have hvs40 : v < 40 := by omega
    have hun : u < n := by omega
    have zg := hgr.cell
    have zy := hy.cell
    have hl15 : (edgesOf L pre).length < 15 := by have := edgesOf_length L pre; omega
    have HSN := Lib.hid hsn
    clear hin hX hXl h64 eX hsn hA1 hlen
    by_cases hbit : X / 2 ^ v % 2 = 1
    · have hbb : (X / 2 ^ v % 2 == 1) = true := by simp [hbit]
      have hs2 : edgesOf L (pre ++ [(⟨(u, v), hu, hv⟩ : Pr n)]) = edgesOf L pre ++ [(⟨(u, v), hu, hv⟩ : Pr n)] := by rw [HSN.out, if_pos hbit]
      have HS2 := Lib.hid hs2
      clear hbit hs2
      obtain ⟨fn, tmps, assign, body, hyy, hR⟩ := HY.out (edgesOf L pre) ⟨(u, v), hu, hv⟩ Wr hj hl15
      dsimp only [encP] at hyy
      gi_wp2_with (refine ⟨trivial, ?_⟩; gi_at_call 67; refine (CallsIn.inRound l2 (callsIn_wide.2 (edge_any blk off n c u v X _ hXs hun hvs40 hc1))).mono ?_; rw [hbb]; rintro e w' ⟨rfl, rfl⟩)
      refine (roundIn_wide hR).mono ?_
      rintro e W3 (⟨rfl, a1, a2, a3, a4⟩ | ⟨rfl, a1, a3, a4⟩)
      · gi_wp2
        refine ⟨keepsFrom_up a3 (by omega), trivial, ?_, a4 M _ (Nat.le_refl _) (by omega) hy, a2.1 hgr, a2.2 hse⟩
        rw [HS2.out]; exact a1
      · gi_wp2
        refine ⟨keepsFrom_up a3 (by omega), rfl, ?_⟩
        rw [HS2.out]; exact a1
    · have hbb : (X / 2 ^ v % 2 == 1) = false := by simp [hbit]
      have hs2 : edgesOf L (pre ++ [(⟨(u, v), hu, hv⟩ : Pr n)]) = edgesOf L pre := by rw [HSN.out, if_neg hbit, List.append_nil]
      have HS2 := Lib.hid hs2
      clear hbit hs2
      gi_wp2_with (refine ⟨trivial, ?_⟩; gi_at_call 67; refine (CallsIn.inRound l2 (callsIn_wide.2 (edge_any blk off n c u v X _ hXs hun hvs40 hc1))).mono ?_; rw [hbb]; rintro e w' ⟨rfl, rfl⟩)
      refine ⟨by simp, ?_⟩
      gi_wp2
      refine ⟨KeepsFrom.refl _ _, trivial, ?_, hy, hgr, hse⟩
      rw [HS2.out]; exact hj
  case done =>
    rintro D xs Z hD hS ⟨hj, hy, hgr, hse⟩ hK
    gi_wp2
    refine ⟨by simp, .inl ⟨_, _, rfl, run_takeDeferred hK, ?_⟩⟩
    refine ⟨_, results_none rfl _ _ _, ?_⟩
    exact ⟨⟨_, rfl⟩, .inl ⟨_, ⟨xs, hS, rfl⟩, HJ.out.putObj _ hj (by omega) hK rfl⟩⟩
  case stop =>
    rintro D cd pre Z hD _ ⟨rfl, hj⟩ hK
    gi_wp2
    refine ⟨by simp, .inl ⟨_, _, rfl, run_takeDeferred hK, ?_⟩⟩
    refine ⟨_, results_none rfl _ _ _, ?_⟩
    exact ⟨⟨_, rfl⟩, .inr ⟨_, trivial, HX.out.putObj _ hj (by omega) hK rfl⟩⟩
end Go.Proofs.YtfhaeocgbihddaaDoor

/- The iterator over the edges, handed out; what its rounds keep. -/


namespace Go.Proofs.YtfhaeocgbihddaaDoor
open Go.RowKit Go.Shelf
attribute [local go_sem] Oper.semAt_some
set_option linter.unusedVariables false
set_option maxRecDepth 100000

/-- edges hands out its iterator; the graph lies in a box. -/
theorem edgesIt_any (A : Option Addr) (n c : Nat) (w : World) : Calls Tryd.prog 62 #[.slice A n c] w fun e w' =>
    e = .returned (.func (.func 73) #[] #[.pointer (some ⟨w.heap.size, 0, none⟩)]) ∧ w.alloc (.cells #[.slice A n c] 34) = w' := by
  have hmf : ∀ (fn : Fn) (first cap : Array Value) (w : World), (Instr.makeFunc fn first cap).run Tryd.prog w = .ok (.func fn first cap) w := fun _ _ _ _ => rfl
  go_enter Tryd.func62, Tryd.ntmps62
  go_wp2
  go_ret
  exact ⟨rfl, rfl⟩
theorem keepG_tr {B : Nat} {A : Option Addr} {c n : Nat} {L : List Int} {X Y Z : World} (h : KeepG B A c n L X Y) (k : KeepG B A c n L Y Z) : KeepG B A c n L X Z := ⟨fun x => k.1 (h.1 x), fun x => k.2 (h.2 x)⟩
theorem keepG_bk {B : Nat} {A : Option Addr} {c n : Nat} {L : List Int} (W : World) (l : Nat) (o o' : Obj) (h : W.heap[l]? = some o) (ho : o.isCells = false) : KeepG B A c n L W (W.putObj l o') :=
  ⟨fun x => (boxed_own (β := Unit) B _ (fun _ => _)).putObj (s := ()) o' x h ho, fun x => (seen_own (β := Unit) A L).putObj (s := ()) o' x h ho⟩

theorem vals_edgesOf {m : Nat} (L : List Int) (ys : List (Pr m)) : vals (edgesOf L ys) = edgesIn L (vals ys) := by
  unfold edgesIn vals edgesOf
  rw [List.filter_map]
  rfl

theorem size_own {β : Type} (m : Nat) : Own (fun (_ : β) (W : World) => m ≤ W.heap.size) := fun _ X Y row h hg _ => Nat.le_trans h hg.size
end Go.Proofs.YtfhaeocgbihddaaDoor

/- The edges within a set of nodes, as the program finds them: a struct in a box. -/








namespace Go.Proofs.YtfhaeocgbihddaaDoor
open Go.RowKit Go.Shelf
attribute [local go_sem] Oper.semAt_some
set_option linter.unusedVariables false
set_option maxRecDepth 100000

/-- A box that holds some nodes and some edges. -/
abbrev prC (a b : Int) : Array Value := #[.int .i64 a, .int .i64 b]
def PairAt (W : World) (B : Nat) (a b : Int) : Prop := W.heap[B]? = some (.cells (prC a b) 67 (0, 0))
theorem PairAt.lt {W : World} {B : Nat} {a b : Int} (h : PairAt W B a b) : B < W.heap.size := (Array.getElem?_eq_some_iff.1 h).1
theorem PairAt.cell1 {W : World} {B : Nat} {a b : Int} (h : PairAt W B a b) : W.cell? ⟨B, 1, none⟩ = some (.int .i64 b) := by rw [cell_of_row W B 1 _ _ _ h]; rfl
theorem PairAt.cell0 {W : World} {B : Nat} {a b : Int} (h : PairAt W B a b) : W.cell? ⟨B, 0, none⟩ = some (.int .i64 a) := by rw [cell_of_row W B 0 _ _ _ h]; rfl
theorem PairAt.frozen {W : World} {B : Nat} {a b : Int} (h : PairAt W B a b) (k : Nat) : W.frozen? ⟨B, k, none⟩ = false := frozen_of_row W B k _ _ h
theorem PairAt.set1 {W : World} {B : Nat} {a b : Int} (h : PairAt W B a b) (x : Int) : PairAt (W.setCell ⟨B, 1, none⟩ (.int .i64 x)) B a x := by
  unfold PairAt
  rw [heap_setCell_same W B _ _ _ _ h]
  rfl
theorem PairAt.set0 {W : World} {B : Nat} {a b : Int} (h : PairAt W B a b) (x : Int) : PairAt (W.setCell ⟨B, 0, none⟩ (.int .i64 x)) B x b := by
  unfold PairAt
  rw [heap_setCell_same W B _ _ _ _ h]
  rfl
theorem PairAt.other {W : World} {B : Nat} {a b : Int} (h : PairAt W B a b) {p : Addr} (v : Value) (hne : B ≠ p.block) : PairAt (W.setCell p v) B a b := (heap_setCell_other W p B v hne).trans h
theorem PairAt.alloc {W : World} {B : Nat} {a b : Int} (h : PairAt W B a b) (o : Obj) : PairAt (W.alloc o) B a b := (Below.heap_alloc W o B h.lt).trans h
theorem PairAt.new (W : World) (a b : Int) : PairAt (W.alloc (.cells (prC a b) 67)) W.heap.size a b := heap_alloc_new W _
theorem PairAt.kept {W W' : World} {row : Option Nat} {B : Nat} {a b : Int} (h : PairAt W B a b) (hg : W.grownBy W' row) (hne : some B ≠ row) : PairAt W' B a b := (hg.block B h.lt hne).trans h
theorem pair_own {β : Type} (B : Nat) (f g : β → Int) : Own (fun s W => PairAt W B (f s) (g s)) := fun s X Y row hs hg hrow =>
  (hg.block B hs.lt (fun e' => by obtain ⟨o, ho, hc⟩ := hrow B e'.symm; rw [show X.heap[B]? = _ from hs] at ho; cases ho; cases hc)).trans hs
theorem pair_desc : ∃ d, Tryd.prog.underlying 67 = some (.struct d) := by
  cases h : Tryd.prog.underlying 67 with
  | none => exact absurd h (by rw [show Tryd.prog.underlying 67 = _ from Tryd.underlying67]; intro e; cases e)
  | some d =>
    rw [show Tryd.prog.underlying 67 = _ from Tryd.underlying67] at h
    cases h
    exact ⟨_, rfl⟩
theorem pair_info : (Tryd.prog.info? 67).map (·.size) = some 2 := by kernel_rfl
theorem load_pair {W : World} {B : Nat} {a b : Int} (h : PairAt W B a b) : (loadVar 67 ⟨B, 0, none⟩).run Tryd.prog W = .ok (.agg (prC a b)) W := by
  obtain ⟨d, hd⟩ := pair_desc
  exact run_loadVar_row W B _ _ _ _ _ h hd rfl pair_info
theorem store_pair {W : World} {B : Nat} {a b : Int} (x y : Int) (h : PairAt W B a b) : (storeVar 67 ⟨B, 0, none⟩ (.agg (prC x y))).run Tryd.prog W = .ok () (W.setRow B (prC x y)) :=
  run_storeVar_row W B _ _ _ _ h pair_info rfl (by simp [Value.oneCell'])
theorem PairAt.stored {W : World} {B : Nat} {a b : Int} (x y : Int) (h : PairAt W B a b) : PairAt (W.setRow B (prC x y)) B x y := setRow_heap W B _ _ _ _ h
theorem build_pair (x : Int) (W : World) : (Instr.build 67 #[(0, .int .i64 x)]).run Tryd.prog W = .ok (.agg (prC x 0)) W := by kernel_rfl
theorem alloc_pair (W : World) : (Instr.alloc 67 true (.tuple #[])).run Tryd.prog W = .ok (.pointer (some ⟨W.heap.size, 0, none⟩)) (W.alloc (.cells (prC 0 0) 67)) := by rfl
theorem field_pair (B : Nat) (W : World) : (Instr.fieldAt 67 (.pointer (some ⟨B, 0, none⟩)) 1).run Tryd.prog W = .ok (.pointer (some ⟨B, 1, none⟩)) W := by rfl

theorem below_setRowP {B : Nat} {a w : World} (h : Below B a w) {g : Nat} (hp : B ≤ g) (cs : Array Value) : Below B a (w.setRow g cs) :=
  h.trans ⟨rfl, rfl, rfl, by simp, fun k hk => setRow_other w g k cs (by omega)⟩
theorem lie_grown {Z Z' : World} {B b d : Nat} (h : Z.grownBy Z' (some B)) (hB : B < b) : Lie b d Z Z' := fun k o h1 _ h3 =>
  (h.block k (Array.getElem?_eq_some_iff.1 h3).1 (fun e => by injection e; omega)).trans h3
section
variable {F : Fence} {n : Nat} {ops : Array Oper} {rest : List Oper} {o : Oper} {a : Act} {w : World} {Q : Exit → Act → World → Prop}
theorem stepIn_load_pair (hgd : o.guard = none) (x : Operand) (ho : o.op = .load 67 x) (g : Nat) (p q : Int) (hx : a.eval x = .pointer (some ⟨g, 0, none⟩)) (h : PairAt w g p q)
    (hK : wpListIn F n Tryd.prog ops Q rest (a.put o.dst (.agg (prC p q))) w) : wpListIn F n Tryd.prog ops Q (o :: rest) a w :=
  wpListIn_plain hgd fun K hK' => by
    unfold Oper.wpIn
    refine ⟨by simp [Oper.about, ho], ?_⟩
    rw [Oper.semAt_plain F _ _ (by rw [ho]; intro c hc'; cases hc')]
    simp only [execOp, ho, hx, Instr.loadAt, Instr.sureAddr, Sem.run_bind, Sem.run_pure, Result.andThen_ok, load_pair h]
    exact hK' _ _ hK
theorem stepIn_store_pair (hgd : o.guard = none) (x y : Operand) (ho : o.op = .store 67 x y) (g : Nat) (p q p' q' : Int) (hx : a.eval x = .pointer (some ⟨g, 0, none⟩)) (hy : a.eval y = .agg (prC p' q')) (h : PairAt w g p q)
    (hK : wpListIn F n Tryd.prog ops Q rest (a.put o.dst undef) (w.setRow g (prC p' q'))) : wpListIn F n Tryd.prog ops Q (o :: rest) a w :=
  wpListIn_plain hgd fun K hK' => by
    unfold Oper.wpIn
    refine ⟨by simp [Oper.about, ho], ?_⟩
    rw [Oper.semAt_plain F _ _ (by rw [ho]; intro c hc'; cases hc')]
    simp only [execOp, ho, hx, hy, Instr.storeAt, Instr.sureAddr, Sem.run_bind, Sem.run_pure, Result.andThen_ok, store_pair p' q' h]
    exact hK' _ _ hK
end
theorem wth_ops {s u v q E : Nat} (hs : s < 64) (hu : u < 6) (hv : v < 6) (hq : q < 15) (hE : E < 32768) : ∃ P1 P2 P3 M K F : Nat, P1 = 2 ^ u ∧ P2 = 2 ^ v ∧ P3 = 2 ^ q ∧ M = P1 ||| P2 ∧ K = s &&& M ∧ F = E ||| P3 ∧
    wrap64 ((2 : Int) ^ u) = (P1 : Int) ∧ IntKind.i64.wrap ((2 : Int) ^ u) = (P1 : Int) ∧ wrap64 ((2 : Int) ^ v) = (P2 : Int) ∧ IntKind.i64.wrap ((2 : Int) ^ v) = (P2 : Int) ∧ wrap64 ((2 : Int) ^ q) = (P3 : Int) ∧ IntKind.i64.wrap ((2 : Int) ^ q) = (P3 : Int) ∧
    bits .or .i64 (P1 : Int) (P2 : Int) = (M : Int) ∧ bits .and .i64 (s : Int) (M : Int) = (K : Int) ∧ bits .or .i64 (E : Int) (P3 : Int) = (F : Int) := by
  have l1 := pow_le u 5 (by omega)
  have l2 := pow_le v 5 (by omega)
  have l3 := pow_le q 15 (by omega)
  have iw : ∀ x : Int, IntKind.i64.wrap x = wrap64 x := fun x => by rw [IntKind.wrap_i64]; unfold wrap64; rfl
  have hM : 2 ^ u ||| 2 ^ v < 2 ^ 6 := Nat.or_lt_two_pow (Nat.lt_of_le_of_lt l1 (by decide)) (Nat.lt_of_le_of_lt l2 (by decide))
  exact ⟨_, _, _, _, _, _, rfl, rfl, rfl, rfl, rfl, rfl, wrap_pow u (by omega), (iw _).trans (wrap_pow u (by omega)), wrap_pow v (by omega), (iw _).trans (wrap_pow v (by omega)), wrap_pow q (by omega), (iw _).trans (wrap_pow q (by omega)),
    i64_or_nat _ _ (Nat.lt_of_le_of_lt l1 (by decide)) (Nat.lt_of_le_of_lt l2 (by decide)), i64_and_nat s _ (Nat.lt_trans hs (by decide)) (Nat.lt_trans hM (by decide)),
    i64_or_nat E _ (Nat.lt_trans hE (by decide)) (Nat.lt_of_le_of_lt l3 (by decide))⟩

set_option maxHeartbeats 4000000 in
theorem within_in (A : Option Addr) (c : Nat) (L : List Int) (hg : IsGraph L) (s : Nat) (hs : s < 64) (w : World) (h : Seen w A L) :
    CallsIn Fence.wide 6 Tryd.prog 70 #[.slice A L.length c, .int .i64 s] w fun e w' => e = .returned (.agg (prC s (wth s (edgesIn L (rows L.length)) : Nat))) ∧ Below w.heap.size w w' := by
  have h1 := hg.1
  have h6 := hg.2.1
  obtain ⟨n, hn⟩ : ∃ n, n = L.length := ⟨_, rfl⟩
  rw [← hn] at h1 h6 ⊢
  have HN := Lib.hid hn
  have H := Lib.hid h
  have HG := Lib.hid hg
  have ha := alloc_pair
  have hbu := build_pair
  clear h hg hn
  refine callsIn_of_wp_marks Tryd.func70 rfl trivial ?_ rfl
  simp only [Tryd.ntmps70, List.size_toArray, List.length_cons, List.length_nil, Nat.reduceAdd, Nat.reduceSub, Array.replicate_succ, Array.replicate_zero, List.push_toArray, List.append_toArray, List.nil_append, List.cons_append]
  gi_wp2_with (refine ⟨trivial, ?_⟩; gi_at_call 62; refine (callsIn_wide.2 (edgesIt_any _ _ _ _)).mono ?_; rintro e w' ⟨rfl, rfl⟩)
  obtain ⟨W, eW⟩ : ∃ W, W = (((w.alloc (.cells #[.int .i64 s] 3)).alloc (.cells (prC 0 0) 67)).alloc (.cells (prC s 0) 67)).alloc (.cells #[.slice A n c] 34) := ⟨_, rfl⟩
  have sW : W.heap.size = w.heap.size + 1 + 1 + 1 + 1 := by rw [eW]; simp
  have hBW : Below w.heap.size w W := by rw [eW]; exact ((((Below.refl _ w).alloc (Nat.le_refl _) _).alloc (by simp) _).alloc (by simp; omega) _).alloc (by simp; omega) _
  have b0 : Boxed W w.heap.size 3 (.int .i64 s) := by rw [eW]; exact (((Boxed.new w _ _).alloc _).alloc _).alloc _
  have b1 : PairAt W (w.heap.size + 1) 0 0 := by
    rw [eW]; have h := PairAt.new (w.alloc (.cells #[.int .i64 s] 3)) 0 0; rw [World.size_alloc] at h; exact (h.alloc _).alloc _
  have b2 : PairAt W (w.heap.size + 1 + 1) s 0 := by
    rw [eW]; have h := PairAt.new ((w.alloc (.cells #[.int .i64 s] 3)).alloc (.cells (prC 0 0) 67)) s 0; rw [World.size_alloc, World.size_alloc] at h; exact h.alloc _
  have b3 : Boxed W (w.heap.size + 1 + 1 + 1) 34 (.slice A n c) := by
    rw [eW]; have h := Boxed.new (((w.alloc (.cells #[.int .i64 s] 3)).alloc (.cells (prC 0 0) 67)).alloc (.cells (prC s 0) 67)) 34 (.slice A n c); rw [World.size_alloc, World.size_alloc, World.size_alloc] at h; exact h
  rw [← eW]
  clear eW ha hbu
  obtain ⟨n₀, en⟩ : ∃ n₀, n₀ = w.heap.size := ⟨_, rfl⟩
  rw [← en] at sW hBW b0 b1 b2 b3 ⊢
  have hle : n₀ ≤ w.heap.size := by omega
  have hleW : n₀ + 1 + 1 + 1 < W.heap.size := by omega
  have hsW : Seen W A L := H.out.below (by rw [← en]; exact hBW)
  have EN := Lib.hid en
  have SW := Lib.hid sW
  clear en sW
  refine wpIn_outer (α := Pr n) rfl (by omega) (gf := 73) (lb := #[.pointer (some ⟨n₀ + 1 + 1 + 1, 0, none⟩)]) rfl trivial (enters_of Tryd.func73 (by kernel_rfl) rfl)
    (edges_stops A c L n HN.out HG.out (n₀ + 1 + 1 + 1) W hleW b3 hsW) keepG_tr (fun W l o o' _ ho hc _ => keepG_bk W l o o' ho hc) (Below.refl _ _) (fun _ => rfl)
    (fun pre Z => (Boxed Z n₀ 3 (.int .i64 s) ∧ PairAt Z (n₀ + 1) 0 0 ∧ PairAt Z (n₀ + 1 + 1) s (wth s (vals pre) : Nat)) ∧ Below n₀ w Z) (fun _ _ _ => False)
    (OwnFrom.and (Own.from (fun s' X Y row hs hg hr => ⟨boxed_own _ _ (fun _ : Unit => _) () X Y row hs.1 hg hr, pair_own _ (fun _ : Unit => _) (fun _ => _) () X Y row hs.2.1 hg hr, pair_own _ (fun _ : Unit => _) (fun _ => _) () X Y row hs.2.2 hg hr⟩) _) (ownFrom_below hle (by have := SW.out; omega))) (fun _ _ _ _ _ hs _ _ => hs)
    ⟨⟨b0, b1, b2⟩, hBW⟩
    (fun x => { tmps := #[.slice A n c, .int .i64 s, undef, .pointer (some ⟨n₀, 0, none⟩), .pointer (some ⟨n₀ + 1, 0, none⟩), .pointer (some ⟨n₀ + 1 + 1, 0, none⟩), .int .i64 (x.1.1 : Int), .int .i64 (x.1.2 : Int), undef, .int .i64 s, .agg (prC s 0), .slice A n c,
      .func (.func 73) #[] #[.pointer (some ⟨n₀ + 1 + 1 + 1, 0, none⟩)], .int .i64 (x.1.1 : Int), .int .i64 (x.1.2 : Int), undef, undef, undef, undef, undef, undef, undef, undef, undef, undef, undef, undef, undef, undef, undef, undef, undef, undef, undef], defers := [] }) ?assign ?body ?done ?stop
  case assign =>
    intro l x Z K hK
    gi_wp2
    exact hK
  case body =>
    rintro l pre x Z ⟨⟨c0, c1, c2⟩, hB⟩ hlen
    have hst : wth s (vals (pre ++ [x])) = wthStep s (wth s (vals pre)) x.1 := by rw [vals_snoc, wth_snoc]
    have hE : wth s (vals pre) < 32768 := wth_lt h6 (fun p hp => by
      simp only [vals, List.mem_map] at hp
      obtain ⟨q, _, rfl⟩ := hp
      exact upto_all n _ _ q.2.1 q.2.2)
    obtain ⟨pr, epr⟩ : ∃ pr, pr = pre ++ [x] := ⟨_, rfl⟩
    rw [← epr] at hst ⊢
    obtain ⟨⟨u, v⟩, hu, hv⟩ := x
    dsimp only at hu hv hst ⊢
    have hq : plN (u, v) < 15 := plN_lt h6 (upto_all n u v hu hv)
    unfold wthStep at hst
    have HPL := Lib.hid (place_any u v (by omega) (by omega) (by omega))
    rw [show v * (v - 1) / 2 + u = plN (u, v) from rfl] at HPL
    obtain ⟨q, eq⟩ : ∃ q, q = plN (u, v) := ⟨_, rfl⟩
    rw [← eq] at hst hq HPL
    obtain ⟨E, eE⟩ : ∃ E, E = wth s (vals pre) := ⟨_, rfl⟩
    rw [← eE] at hE hst c2
    obtain ⟨P1, P2, P3, M, K2, F3, eP1, eP2, eP3, eM, eK, eF, p1, p1', p2, p2', p3, p3', f1, f2, f3⟩ := wth_ops hs (show u < 6 by omega) (show v < 6 by omega) hq hE
    rw [← eP1, ← eP2, ← eP3, ← eM, ← eK, ← eF] at hst
    have hq40 : q < 40 := Nat.lt_trans hq (by decide)
    have hu40 : u < 40 := Nat.lt_trans hu (Nat.lt_trans hv (Nat.lt_of_le_of_lt h6 (by decide)))
    have hv40 : v < 40 := Nat.lt_trans hv (Nat.lt_of_le_of_lt h6 (by decide))
    have z0 := c0.cell
    have C0 := Lib.hid c0
    have C1 := Lib.hid c1
    have C2 := Lib.hid c2
    have HB := Lib.hid hB
    have HST := Lib.hid hst
    have y0 : ∀ k, (Z.drewN k).cell? ⟨n₀, 0, none⟩ = some (.int .i64 s) := fun k => z0
    clear hst c0 c1 c2 hB epr eq eP1 eP2 eP3 eE eM eK eF hE hlen
    by_cases hKM : K2 = M
    · have hd : ((K2 : Int) == (M : Int)) = true := by simp [hKM]
      have HV := Lib.hid (HST.out.trans (if_pos hKM))
      clear HST hKM
      gi_wp2
      refine wpIn_quiet_round (by kernel_rfl) (by kernel_rfl) (by kernel_rfl) ?_
      repeat (quiet_step_in (fail))
      refine wpQuietIn_nil ?_
      rintro _ ⟨k, rfl⟩
      have yk := y0 k
      obtain ⟨Y, eY⟩ : ∃ Y, Y = Z.drewN k := ⟨_, rfl⟩
      have d2 : PairAt Y (n₀ + 1 + 1) s E := by rw [eY]; exact C2.out
      have x1 : Y.drew.cell? ⟨n₀ + 1 + 1, 1, none⟩ = some (.int .i64 E) := d2.cell1
      have x2 : Y.drew.frozen? ⟨n₀ + 1 + 1, 1, none⟩ = false := d2.frozen 1
      rw [← eY] at yk ⊢
      have EY := Lib.hid eY
      have D2 := Lib.hid d2
      clear eY y0 d2 z0
      gi_wp2
      obtain ⟨w2, ew2⟩ : ∃ w2, w2 = Y.drew := ⟨_, rfl⟩
      rw [← ew2] at x1 x2
      have EW := Lib.hid ew2
      clear ew2
      refine wpIn_tail_round 8 (by kernel_rfl) (by kernel_rfl) (by kernel_rfl) ?_
      simp only [List.take_succ_cons, List.take_zero, List.drop_succ_cons, List.drop_zero]
      rw [← EW.out]
      repeat still_step
      still_call ((HPL.out _).mono fun e w' ⟨he, hw⟩ => ⟨he, hw.symm⟩)
      repeat still_step
      refine wpStill_nil ?_
      gi_wp2
      have gz : Z.grownBy (w2.setCell ⟨n₀ + 1 + 1, 1, none⟩ (.int .i64 F3)) (some (n₀ + 1 + 1)) := by rw [EW.out, EY.out]; exact grown_set (grown_drew (grown_drewN (World.grownBy.refl Z (some (n₀ + 1 + 1))) k)) 1 _
      have hbw : Below n₀ w (w2.setCell ⟨n₀ + 1 + 1, 1, none⟩ (.int .i64 F3)) := HB.out.grown gz (by have := HB.out.size; omega) (fun k e => by injection e; omega)
      refine ⟨⟨?_, ⟨fun x => x.kept gz (fun e => by injection e; omega), fun _ => H.out.below (by rw [← EN.out]; exact hbw)⟩, ⟨C0.out.kept gz (fun e => by injection e; omega), C1.out.kept gz (fun e => by injection e; omega), ?_⟩, hbw⟩, lie_grown gz (by have := SW.out; omega)⟩
      · exact (KeepsOthers.of_grownBy gz (fun j o e ho => by cases e; rw [show Z.heap[n₀ + 1 + 1]? = _ from C2.out] at ho; cases ho; rfl)).from _
      · rw [HV.out, EW.out]
        exact (show PairAt Y.drew (n₀ + 1 + 1) s E from D2.out).set1 _
    · have hd : ((K2 : Int) == (M : Int)) = false := by simp; omega
      have HV := Lib.hid (HST.out.trans (if_neg hKM))
      clear HST hKM
      gi_wp2
      refine wpIn_quiet_round (by kernel_rfl) (by kernel_rfl) (by kernel_rfl) ?_
      repeat (quiet_step_in (fail))
      refine wpQuietIn_nil ?_
      rintro _ ⟨k, rfl⟩
      have yk := y0 k
      gi_wp2
      have gz : Z.grownBy (Z.drewN k) none := grown_drewN (World.grownBy.refl Z none) k
      have hbw : Below n₀ w (Z.drewN k) := HB.out.grown gz (by have := HB.out.size; omega) (fun k e => by cases e)
      refine ⟨⟨(KeepsOthers.of_grownBy gz (fun j o e ho => by cases e)).from _, ⟨fun x => x.kept gz (fun e => by cases e), fun _ => H.out.below (by rw [← EN.out]; exact hbw)⟩, ⟨C0.out, C1.out, ?_⟩, hbw⟩, fun k o _ _ h3 => h3⟩
      rw [HV.out]
      exact C2.out
  case done =>
    rintro D xs Z hD hS ⟨⟨c0, c1, c2⟩, hB⟩ hK
    obtain ⟨ys, hy, rfl⟩ := hS
    rw [vals_edgesOf, hy] at c2
    have C1 := Lib.hid c1
    have C2 := Lib.hid c2
    obtain ⟨E, eE⟩ : ∃ E, E = wth s (edgesIn L (rows n)) := ⟨_, rfl⟩
    rw [← eE] at C2
    have EE := Lib.hid eE
    have hne : D ≠ n₀ + 1 := fun e => by subst e; rw [show Z.heap[n₀ + 1]? = _ from c1] at hK; cases hK
    have hKS := (setRow_other Z (n₀ + 1) D (prC s E) hne).trans hK
    have h2 := (pair_own (β := Unit) (n₀ + 1) (fun _ => (s : Int)) (fun _ => (E : Int))).putObj (s := ()) (.deferred none) (c1.stored (s : Int) (E : Int)) hKS rfl
    clear c1 c0 c2 hy eE
    gi_wp2_with (first | refine stepIn_load_pair rfl (.tmp 5) rfl _ _ _ rfl C2.out ?_ | refine stepIn_store_pair rfl (.tmp 4) (.tmp 33) rfl _ _ _ _ _ rfl rfl C1.out ?_)
    refine ⟨by simp, .inl ⟨_, _, rfl, run_takeDeferred hKS, ?_⟩⟩
    obtain ⟨d, hd⟩ := pair_desc
    refine ⟨_, results_cell_row rfl _ _ _ _ _ _ _ rfl h2 hd rfl pair_info, ?_⟩
    refine ⟨by rw [← EE.out], ?_⟩
    rw [← EN.out]
    exact (below_setRowP hB (by omega) _).trans (belowK_b (w := w) hle _ D _ _ (by have := EN.out; have := SW.out; omega) hKS rfl rfl)
  case stop =>
    rintro D cd pre W _ _ h _
    exact h.elim
end Go.Proofs.YtfhaeocgbihddaaDoor

/- What sets of nodes the program takes: free ones, covers. -/


namespace Go.Proofs.YtfhaeocgbihddaaDoor
open Go Go.RowKit
set_option linter.unusedVariables false
set_option maxRecDepth 100000

theorem eql_pair (s E : Int) (W : World) : (binOp .eql 67 (.agg (prC s E)) (.agg (prC s 0))).run Tryd.prog W = .ok (.bool (E == 0)) W := by
  have ht : Tryd.prog.underlying 67 = some (.struct (Tryd.prog.fieldsOf 67)) := by kernel_rfl
  have hp : Tryd.prog.stoodInHeld 67 = false := by kernel_rfl
  have hi : Tryd.prog.underlying 3 = some (.int .i64) := Tryd.underlying3
  rw [run_eql_struct, run_equalIn_agg _ 9999 _ _ _ ht hp]
  have h3 : ∀ W, (isAgg 3).run Tryd.prog W = .ok false W := fun W => by kernel_rfl
  unfold Program.fieldsOf
  rw [Tryd.underlying67]
  simp [Op.eqFields, part, h3, run_equalIn_int _ _ _ _ _ _ _ hi]
  by_cases h : E = 0 <;> simp [h]
theorem guard_pair : Tryd.prog.eqGuardType Tryd.prog.depth 67 = false := by kernel_rfl

theorem isFree_fn (A : Option Addr) (c : Nat) (L : List Int) (hg : IsGraph L) (s : Nat) (hs : s < 64) (w : World) (h : Seen w A L) :
    Calls Tryd.prog 54 #[.slice A L.length c, .int .i64 s] w fun e w' => e = .returned (.bool (freeB L s)) ∧ Below w.heap.size w w' := by
  have HW := Lib.hid (callsIn_wide.1 (within_in A c L hg s hs w h))
  have HF := Lib.hid (free_wth hg s)
  obtain ⟨n, hn⟩ : ∃ n, n = L.length := ⟨_, rfl⟩
  rw [← hn] at HW HF ⊢
  obtain ⟨E, eE⟩ : ∃ E, E = wth s (edgesIn L (rows n)) := ⟨_, rfl⟩
  rw [← eE] at HW HF
  have hb := build_pair (s : Int)
  have he := eql_pair (s : Int) (E : Int)
  have hgd := guard_pair
  clear hg h hn eE
  go_enter Tryd.func54, Tryd.ntmps54
  go_wp2_with fail
  refine HW.out.mono ?_
  rintro e w1 ⟨rfl, b1⟩
  go_wp2
  go_ret
  refine ⟨?_, b1⟩
  rw [← HF.out]
  show Ending.returned (.bool ((E : Int) == 0)) = Ending.returned (.bool (E == 0))
  rw [show ((E : Int) == 0) = (E == 0) from by rw [Bool.eq_iff_iff, beq_iff_eq, beq_iff_eq]; omega]
theorem isCover_fn (A : Option Addr) (c : Nat) (L : List Int) (hg : IsGraph L) (s : Nat) (hs : s < 64) (w : World) (h : Seen w A L) :
    Calls Tryd.prog 58 #[.slice A L.length c, .int .i64 s] w fun e w' => e = .returned (.bool (coverB L s)) ∧ Below w.heap.size w w' := by
  have h6 := hg.2.1
  have h64 := two_le h6
  have hp := two_pos L.length
  obtain ⟨Q, hQ⟩ : ∃ Q, Q + 1 = 2 ^ L.length := ⟨2 ^ L.length - 1, by omega⟩
  have HA := Lib.hid (fun w => all_any A L.length c Q h6 hQ w)
  have hC : coverB L s = freeB L (outS Q s) := by unfold coverB; rw [show 2 ^ L.length - 1 = Q by omega]
  have ho : outS Q s < 64 := Nat.lt_of_le_of_lt Nat.and_le_left (by omega)
  have hop : bits .andNot .i64 (Q : Int) (s : Int) = (outS Q s : Nat) := i64_andNot_nat Q s (by omega) (by omega)
  rw [hC]
  obtain ⟨t, et⟩ : ∃ t, t = outS Q s := ⟨_, rfl⟩
  rw [← et] at ho hop ⊢
  have HF := Lib.hid (isFree_fn A c L hg t ho w h)
  obtain ⟨n, hn⟩ : ∃ n, n = L.length := ⟨_, rfl⟩
  rw [← hn] at HF HA ⊢
  clear hg h h6 h64 hp hQ hC et hn
  go_enter Tryd.func58, Tryd.ntmps58
  go_wp2_with fail
  refine (HA.out _).mono ?_
  rintro e w1 ⟨rfl, rfl⟩
  go_wp2_with fail
  refine HF.out.mono ?_
  rintro e w1 ⟨rfl, b1⟩
  go_wp2
  go_ret
  exact ⟨rfl, b1⟩
end Go.Proofs.YtfhaeocgbihddaaDoor

/- The iterator over the subsets of a set of at most 15 members. -/



namespace Go.Proofs.YtfhaeocgbihddaaDoor
open Go.RowKit Go.Shelf
attribute [local go_sem] Oper.semAt_some
set_option linter.unusedVariables false
set_option maxRecDepth 100000

abbrev SbS (C : Nat) := { s : Nat // s &&& C = s }
abbrev encB (C : Nat) (x : SbS C) : Array Value := #[.int .i64 (x.1 : Int)]
def valsB {C : Nat} (l : List (SbS C)) : List Nat := l.map (·.1)
theorem valsB_snoc {C : Nat} (l : List (SbS C)) (x : SbS C) : valsB (l ++ [x]) = valsB l ++ [x.1] := by simp [valsB]
/-- What a round owes to the iterator: its box stays. -/
def KeepB (B C : Nat) (X Y : World) : Prop := Boxed X B 3 (.int .i64 C) → Boxed Y B 3 (.int .i64 C)
theorem keepB_t {B C : Nat} {X Y Z : World} (h : KeepB B C X Y) (k : KeepB B C Y Z) : KeepB B C X Z := fun x => k (h x)
theorem keepB_b {B C : Nat} (W : World) (l : Nat) (o o' : Obj) (h : W.heap[l]? = some o) (ho : o.isCells = false) : KeepB B C W (W.putObj l o') := fun x => (boxed_own (β := Unit) B _ (fun _ => _)).putObj (s := ()) o' x h ho
set_option maxHeartbeats 1000000 in
theorem sb_stops (n Bn C : Nat) (hn : 1 ≤ n) (hC : C < 32768) (w : World) (hc : Boxed w Bn 3 (.int .i64 C)) :
    SeqStopsK Fence.wide n Tryd.prog 76 #[.pointer (some ⟨Bn, 0, none⟩)] (encB C) (KeepB Bn C) (fun xs => valsB xs = sbL C) (fun pre => True) 32768 w := fun l J Jx W hb hJ hJx hY h0 => by
  have hcW : Boxed W Bn 3 (.int .i64 C) := (hb.block Bn hc.lt).trans hc
  have HY := Lib.hid hY
  have HCW := Lib.hid (show True ∧ Boxed W Bn 3 (.int .i64 C) from ⟨trivial, hcW⟩)
  clear hY hJ hJx hb hc hcW
  refine callsIn_of_wp Tryd.func76 rfl trivial ?_ rfl
  simp only [Tryd.ntmps76, List.size_toArray, List.length_cons, List.length_nil, Nat.reduceAdd, Nat.reduceSub, Array.replicate_succ, Array.replicate_zero, List.push_toArray, List.append_toArray, List.nil_append, List.cons_append]
  gi_wp2
  gi_loopw [3] (fun b wr => ∃ (s : Nat) (pre : List (SbS C)), s &&& C = s ∧ b = .int .i64 s ∧ Hid (valsB pre ++ sbOf C s = sbL C) ∧ J pre wr ∧ Hid (Boxed wr Bn 3 (.int .i64 C))) (fun b _ => C - (intOf b).toNat)
  case atStart => exact ⟨0, [], by simp, rfl, Lib.hid rfl, h0, Lib.hid HCW.out.2⟩
  case round =>
    obtain ⟨s, pre, hs, rfl, hp, hJ, hcr⟩ := hrel
    have hsC : s ≤ C := by rw [← hs]; exact Nat.and_le_right
    have hlen : pre.length < 32768 := by
      have h1 := (sbOf_len (s := 0) hC (by simp)).1
      have h2 := congrArg List.length hp.out
      rw [List.length_append, sbL_eq] at h2
      have h3 : 1 ≤ (sbOf C s).length := (sbOf_len hC hs).2
      have h4 : (valsB pre).length = pre.length := by simp [valsB]
      omega
    obtain ⟨fn, tmps, assign, body, hy, hR⟩ := HY.out pre ⟨s, hs⟩ wr hJ hlen
    dsimp only [encB] at hy
    clear hlen
    gi_wp2
    refine hR.mono ?_
    rintro e W3 (⟨rfl, hJ3, hk3⟩ | ⟨rfl, hJx3⟩)
    · have hC3 := Lib.hid (hk3 hcr.out)
      have hc3 := hC3.out.cell
      by_cases hne : s = C
      · have hd : ((s : Int) != (C : Int)) = false := by simp; omega
        have HP := Lib.hid (show valsB (pre ++ [(⟨s, hs⟩ : SbS C)]) = sbL C by
          have h := hp.out
          rw [hne, sbOf_end] at h
          rw [valsB_snoc]
          show valsB pre ++ [s] = sbL C
          rw [hne]
          exact h)
        clear hp
        gi_wp2
        go_end0
        exact ⟨⟨_, rfl⟩, .inl ⟨_, HP.out, hJ3⟩⟩
      · have hd : ((s : Int) != (C : Int)) = true := by simp; omega
        have hnx := nx_facts hC hs hne
        have hop := nx_op hC hsC
        have hwr : wrap64 ((s : Int) - (C : Int)) = (s : Int) - (C : Int) := by unfold wrap64; omega
        have HP := Lib.hid (show valsB (pre ++ [(⟨s, hs⟩ : SbS C)]) ++ sbOf C (nx C s) = sbL C by
          rw [valsB_snoc, List.append_assoc, List.singleton_append, ← sbOf_next hC hs hne]
          exact hp.out)
        obtain ⟨t, et⟩ : ∃ t, t = nx C s := ⟨_, rfl⟩
        rw [← et] at hnx hop HP
        clear hp et
        gi_wp2
        go_roundw
        case rel => exact ⟨t, _, hnx.2, rfl, HP, hJ3, hC3⟩
        case measure =>
          have htC : t ≤ C := by rw [← hnx.2]; exact Nat.and_le_right
          simp [intOf]
          omega
    · gi_wp2
      go_end0
      exact ⟨⟨_, rfl⟩, .inr ⟨_, trivial, hJx3⟩⟩
theorem subsetsB_any (C : Nat) (w : World) : Calls Tryd.prog 68 #[.int .i64 C] w fun e w' =>
    e = .returned (.func (.func 76) #[] #[.pointer (some ⟨w.heap.size, 0, none⟩)]) ∧ w.alloc (.cells #[.int .i64 C] 3) = w' := by
  have hmf : ∀ (fn : Fn) (first cap : Array Value) (w : World), (Instr.makeFunc fn first cap).run Tryd.prog w = .ok (.func fn first cap) w := fun _ _ _ _ => rfl
  go_enter Tryd.func68, Tryd.ntmps68
  go_wp2
  go_ret
  exact ⟨rfl, rfl⟩
end Go.Proofs.YtfhaeocgbihddaaDoor

/- How many ones a code of at most 15 places has: by math/bits. -/

namespace Go.Proofs.YtfhaeocgbihddaaDoor
open Go.RowKit
set_option linter.unusedVariables false
set_option maxRecDepth 100000

/-- For all numbers from s on, 2 ^ k of them. -/
def allP (p : Nat → Bool) (k : Nat) : Nat → Bool := Nat.rec (motive := fun _ => Nat → Bool) (fun s => p s) (fun k r s => r s && r (s + 2 ^ k)) k
theorem allP_zero (p : Nat → Bool) (s : Nat) : allP p 0 s = p s := rfl
theorem allP_succ (p : Nat → Bool) (k s : Nat) : allP p (k + 1) s = (allP p k s && allP p k (s + 2 ^ k)) := rfl
theorem allP_spec {p : Nat → Bool} {k s : Nat} (h : allP p k s = true) : ∀ x, s ≤ x → x < s + 2 ^ k → p x = true := by
  induction k generalizing s with
  | zero =>
    intro x h1 h2
    have e : x = s := by omega
    rw [e]; exact h
  | succ k ih =>
    intro x h1 h2
    rw [allP_succ, Bool.and_eq_true] at h
    by_cases e : x < s + 2 ^ k
    · exact ih h.1 x h1 e
    · exact ih h.2 x (by omega) (by rw [Nat.pow_succ] at h2; omega)
theorem allP_15 {p : Nat → Bool} (h0 : allP p 12 0 = true) (h1 : allP p 12 4096 = true) (h2 : allP p 12 8192 = true) (h3 : allP p 12 12288 = true)
    (h4 : allP p 12 16384 = true) (h5 : allP p 12 20480 = true) (h6 : allP p 12 24576 = true) (h7 : allP p 12 28672 = true) : ∀ x, x < 32768 → p x = true := by
  intro x hx
  rcases Nat.lt_or_ge x 4096 with h | h
  · exact allP_spec h0 x (by omega) (by omega)
  rcases Nat.lt_or_ge x 8192 with h | h
  · exact allP_spec h1 x (by omega) (by omega)
  rcases Nat.lt_or_ge x 12288 with h | h
  · exact allP_spec h2 x (by omega) (by omega)
  rcases Nat.lt_or_ge x 16384 with h | h
  · exact allP_spec h3 x (by omega) (by omega)
  rcases Nat.lt_or_ge x 20480 with h | h
  · exact allP_spec h4 x (by omega) (by omega)
  rcases Nat.lt_or_ge x 24576 with h | h
  · exact allP_spec h5 x (by omega) (by omega)
  rcases Nat.lt_or_ge x 28672 with h | h
  · exact allP_spec h6 x (by omega) (by omega)
  · exact allP_spec h7 x (by omega) (by omega)

theorem unwordU (v : BitVec 64) (m : Nat) (hv : v.toNat = m) (h : m < 2 ^ 63) : IntKind.u64.wrap (v.toNat : Int) = (m : Int) := by
  rw [hv]
  simp [IntKind.wrap, IntKind.bits, IntKind.signed]
  omega
theorem u64_and_nat (a b : Nat) (ha : a < 9223372036854775808) (hb : b < 9223372036854775808) : bits .and .u64 (a : Int) (b : Int) = ((a &&& b : Nat) : Int) :=
  unwordU (BitVec.ofInt 64 (a : Int) &&& BitVec.ofInt 64 (b : Int)) _ (by rw [BitVec.toNat_and, word a ha, word b hb]) (Nat.and_lt_two_pow a hb)

def vc1 (x : Nat) : Nat := ((x / 2) &&& 6148914691236517205) + (x &&& 6148914691236517205)
def vc2 (x : Nat) : Nat := ((vc1 x / 4) &&& 3689348814741910323) + (vc1 x &&& 3689348814741910323)
def vc3 (x : Nat) : Nat := (vc2 x / 16 + vc2 x) &&& 1085102592571150095
def vcOk (x : Nat) : Bool := Nat.ble (vc3 x + vc3 x / 256) 65535 && Nat.beq ((vc3 x + vc3 x / 256) &&& 127) (pcf 15 x)
theorem vc_0 : allP vcOk 12 0 = true := by decide +kernel
theorem vc_1 : allP vcOk 12 4096 = true := by decide +kernel
theorem vc_2 : allP vcOk 12 8192 = true := by decide +kernel
theorem vc_3 : allP vcOk 12 12288 = true := by decide +kernel
theorem vc_4 : allP vcOk 12 16384 = true := by decide +kernel
theorem vc_5 : allP vcOk 12 20480 = true := by decide +kernel
theorem vc_6 : allP vcOk 12 24576 = true := by decide +kernel
theorem vc_7 : allP vcOk 12 28672 = true := by decide +kernel
theorem vc_all {x : Nat} (hx : x < 32768) : vc3 x + vc3 x / 256 < 65536 ∧ (vc3 x + vc3 x / 256) &&& 127 = pcf 15 x := by
  have h := allP_15 vc_0 vc_1 vc_2 vc_3 vc_4 vc_5 vc_6 vc_7 x hx
  unfold vcOk at h
  rw [Bool.and_eq_true] at h
  have h1 := Nat.le_of_ble_eq_true h.1
  exact ⟨by omega, Nat.eq_of_beq_eq_true h.2⟩

set_option maxHeartbeats 1000000 in
theorem ones64c (x : Nat) (hx : x < 32768) (w : World) : Calls Tryd.prog 78 #[.int .u64 x] w (Num w (pcf 15 x)) := by
  obtain ⟨f6, f7⟩ := vc_all hx
  have f1 : bits .and .u64 ((x / 2 : Nat) : Int) (6148914691236517205 : Int) = (((x / 2) &&& 6148914691236517205 : Nat) : Int) := u64_and_nat (x / 2) 6148914691236517205 (by omega) (by decide)
  have f2 : bits .and .u64 (x : Int) (6148914691236517205 : Int) = ((x &&& 6148914691236517205 : Nat) : Int) := u64_and_nat x 6148914691236517205 (by omega) (by decide)
  have l1 : (x / 2) &&& 6148914691236517205 ≤ x / 2 := Nat.and_le_left
  have l2 : x &&& 6148914691236517205 ≤ x := Nat.and_le_left
  obtain ⟨a1, e1⟩ : ∃ a, a = (x / 2) &&& 6148914691236517205 := ⟨_, rfl⟩
  obtain ⟨a2, e2⟩ : ∃ a, a = x &&& 6148914691236517205 := ⟨_, rfl⟩
  have s1 : vc1 x = a1 + a2 := by unfold vc1; rw [e1, e2]
  rw [← e1] at f1 l1
  rw [← e2] at f2 l2
  obtain ⟨b, eb⟩ : ∃ b, b = vc1 x := ⟨_, rfl⟩
  rw [← eb] at s1
  have f3 : bits .and .u64 ((b / 4 : Nat) : Int) (3689348814741910323 : Int) = (((b / 4) &&& 3689348814741910323 : Nat) : Int) := u64_and_nat (b / 4) 3689348814741910323 (by omega) (by decide)
  have f4 : bits .and .u64 (b : Int) (3689348814741910323 : Int) = ((b &&& 3689348814741910323 : Nat) : Int) := u64_and_nat b 3689348814741910323 (by omega) (by decide)
  have l3 : (b / 4) &&& 3689348814741910323 ≤ b / 4 := Nat.and_le_left
  have l4 : b &&& 3689348814741910323 ≤ b := Nat.and_le_left
  obtain ⟨a3, e3⟩ : ∃ a, a = (b / 4) &&& 3689348814741910323 := ⟨_, rfl⟩
  obtain ⟨a4, e4⟩ : ∃ a, a = b &&& 3689348814741910323 := ⟨_, rfl⟩
  have s2 : vc2 x = a3 + a4 := by unfold vc2; rw [e3, e4, eb]
  rw [← e3] at f3 l3
  rw [← e4] at f4 l4
  obtain ⟨d, ed⟩ : ∃ d, d = vc2 x := ⟨_, rfl⟩
  rw [← ed] at s2
  obtain ⟨q, eq⟩ : ∃ q, q = d / 16 + d := ⟨_, rfl⟩
  have f5 : bits .and .u64 (q : Int) (1085102592571150095 : Int) = ((q &&& 1085102592571150095 : Nat) : Int) := u64_and_nat q 1085102592571150095 (by omega) (by decide)
  have l5 : q &&& 1085102592571150095 ≤ q := Nat.and_le_left
  have s3 : vc3 x = q &&& 1085102592571150095 := by unfold vc3; rw [← ed, ← eq]
  obtain ⟨m, em⟩ : ∃ m, m = vc3 x := ⟨_, rfl⟩
  rw [← em] at f6 f7 s3
  rw [← s3] at f5 l5
  obtain ⟨t, et⟩ : ∃ t, t = m + m / 256 := ⟨_, rfl⟩
  rw [← et] at f6 f7
  have f8 : bits .and .i64 (t : Int) (127 : Int) = ((t &&& 127 : Nat) : Int) := i64_and_nat t 127 (by omega) (by decide)
  rw [f7] at f8
  obtain ⟨u, eu⟩ : ∃ u, u = pcf 15 x := ⟨_, rfl⟩
  have hu : u ≤ 15 := by rw [eu]; exact pcf_le 15 x
  rw [← eu] at f8 ⊢
  have g0 : (x : Int) / 2 = ((x / 2 : Nat) : Int) := by omega
  have g0' : (b : Int) / 4 = ((b / 4 : Nat) : Int) := by omega
  rw [← g0] at f1
  rw [← g0'] at f3
  have g1 : (a1 : Int) + (a2 : Int) = (b : Int) := by omega
  have g2 : (a3 : Int) + (a4 : Int) = (d : Int) := by omega
  have g3 : (d : Int) / 16 + (d : Int) = (q : Int) := by omega
  have g4 : (m : Int) + (m : Int) / 256 = (t : Int) := by omega
  have g5 : (t : Int) / 65536 = 0 := by omega
  have g6 : (t : Int) / 4294967296 = 0 := by omega
  have lb : b < 60000 := by omega
  have ld : d < 80000 := by omega
  have lq : q < 90000 := by omega
  have lm : m < 90000 := by omega
  have la : a1 < 60000 ∧ a2 < 60000 ∧ a3 < 60000 ∧ a4 < 60000 := by omega
  clear e1 e2 e3 e4 eb ed em eq s1 s2 s3 et f7 l1 l2 l3 l4 l5 g0 g0' eu
  go_enter Tryd.func78, Tryd.ntmps78
  go_wp2
  go_ret
  exact ⟨rfl, rfl⟩
theorem onesC (x : Nat) (hx : x < 32768) (w : World) : Calls Tryd.prog 69 #[.int .u64 x] w (Num w (pcf 15 x)) := by
  go_enter Tryd.func69, Tryd.ntmps69
  go_wp2_with fail
  refine (ones64c x hx _).mono ?_
  rintro e w1 ⟨rfl, rfl⟩
  go_wp2
  go_ret
  exact ⟨rfl, rfl⟩
end Go.Proofs.YtfhaeocgbihddaaDoor

/- append of one number to a list of the call's own, inside a fence. -/




namespace Go.Proofs.YtfhaeocgbihddaaDoor
open Go.RowKit Go.Shelf
attribute [local go_sem] Oper.semAt_some
set_option linter.unusedVariables false

theorem appendIn_one {F : Fence} {n : Nat} {ops : Array Oper} {rest : List Oper} {o : Oper} {a : Act} {Q : Exit → Act → World → Prop} (hgd : o.guard = none) (s x : Operand)
    (ho : o.op = .call { callee := .builtin .append, args := #[s, x], argTypes := #[23, 23] }) (w : World) (B : Nat) (v : Value) (xs : List Int) (y : Int)
    (hs : a.eval s = v) (hx : a.eval x = .slice (some ⟨w.heap.size, 0, none⟩) 1 1) (hr : Row w B v xs) (hB : B ≤ w.heap.size) (hlen : xs.length ≤ 100000)
    (h : ∀ v' w', Row w' B v' (xs ++ [y]) → (w.alloc (.cells #[.int .i64 y] 3)).grownBy w' v.ownBlock → wpListIn F n Tryd.prog ops Q rest (a.put o.dst v') w') :
    wpListIn F n Tryd.prog ops Q (o :: rest) a (w.alloc (.cells #[.int .i64 y] 3)) := by
  obtain ⟨i0, hi, hz0, hz1, hz2⟩ := info_parts infoInt
  refine wpListIn_append_own (w.alloc (.cells #[.int .i64 y] 3)) hgd s x 23 ho B 3 i0 (.int .i64 0) 1 8 Tryd.underlying23 hi hz0 hz1 hz2 rfl (by decide) v xs.length (xs.map (Value.int .i64)) hs (World.ownsRow.alloc hr _)
    ⟨w.heap.size, 0, none⟩ 1 1 [.int .i64 y] hx rfl (cell_one_new w _ _) (by simp [Value.oneCell']) (by unfold maxLen; omega) (by omega) (by simp; omega) ?_
  intro v' w' hown hg _
  refine h v' w' ?_ hg
  unfold Row
  rw [List.length_append, List.map_append]
  exact hown
end Go.Proofs.YtfhaeocgbihddaaDoor

/- The sizes of the subsets that fit, as the program lists them, for any function that tells which fit. -/






namespace Go.Proofs.YtfhaeocgbihddaaDoor
open Go.RowKit Go.Shelf
attribute [local go_sem] Oper.semAt_some
set_option linter.unusedVariables false
set_option maxRecDepth 100000

/-- Between two rounds: the function's box; the list of the sizes so far. -/
def SzI (n₀ : Nat) (fv : Value) (P : Nat → Bool) (C : Nat) (pre : List (SbS C)) (W : World) : Prop :=
  Boxed W n₀ 52 fv ∧ ∃ v, Boxed W (n₀ + 1) 23 v ∧ Row W (n₀ + 3) v (ints (szs P (valsB pre)))
theorem szI_own (n₀ : Nat) (fv : Value) (P : Nat → Bool) (C : Nat) : Own (SzI n₀ fv P C) := fun pre X Y row ⟨hf, v, hb, hr⟩ hg hrow =>
  ⟨boxed_own _ _ (fun _ : Unit => _) () X Y row hf hg hrow, v, boxed_own _ _ (fun _ : Unit => _) () X Y row hb hg hrow, row_kept hr hg hrow⟩
theorem keeps_belowS {W W' : World} (h : Below W.heap.size W W') : KeepsOthers W W' := ⟨h.size, fun k o ho _ => (h.block k (Array.getElem?_eq_some_iff.1 ho).1).trans ho⟩

set_option maxHeartbeats 4000000 in
theorem sizes_in (C : Nat) (hC : C < 32768) (fid : Nat) (V : Value) (P : Nat → Bool) (w : World) (eg : ∀ args w, (callFunc fid args).run Tryd.prog w = .ok (.enter fid args) w)
    (hf : ∀ W s, Below w.heap.size w W → s &&& C = s → Calls Tryd.prog fid #[V, .int .i64 (s : Nat)] W fun e w' => e = .returned (.bool (P s)) ∧ Below W.heap.size W w') :
    CallsIn Fence.wide 6 Tryd.prog 52 #[.int .i64 C, .func (.func fid) #[V] #[]] w (Gave w (ints (szs P (sbL C)))) := by
  have HF := Lib.hid hf
  have HC := Lib.hid hC
  clear hf hC
  refine callsIn_of_wp_marks Tryd.func52 rfl trivial ?_ rfl
  simp only [Tryd.ntmps52, List.size_toArray, List.length_cons, List.length_nil, Nat.reduceAdd, Nat.reduceSub, Array.replicate_succ, Array.replicate_zero, List.push_toArray, List.append_toArray, List.nil_append, List.cons_append]
  gi_wp2_with (refine ⟨trivial, ?_⟩; gi_at_call 68; refine (callsIn_wide.2 (subsetsB_any _ _)).mono ?_; rintro e w' ⟨rfl, rfl⟩)
  obtain ⟨W, eW⟩ : ∃ W, W = ((w.alloc (.cells #[.func (.func fid) #[V] #[]] 52)).alloc (.cells #[.slice none 0 0] 23)).alloc (.cells #[.int .i64 C] 3) := ⟨_, rfl⟩
  have sW : W.heap.size = w.heap.size + 1 + 1 + 1 := by rw [eW]; simp
  have hBW : Below w.heap.size w W := by rw [eW]; exact (((Below.refl _ w).alloc (Nat.le_refl _) _).alloc (by simp) _).alloc (by simp; omega) _
  have b0 : Boxed W w.heap.size 52 (.func (.func fid) #[V] #[]) := by rw [eW]; exact ((Boxed.new w _ _).alloc _).alloc _
  have b1 : Boxed W (w.heap.size + 1) 23 (.slice none 0 0) := by
    rw [eW]; have h := Boxed.new (w.alloc (.cells #[.func (.func fid) #[V] #[]] 52)) 23 (.slice none 0 0); rw [World.size_alloc] at h; exact h.alloc _
  have b2 : Boxed W (w.heap.size + 1 + 1) 3 (.int .i64 C) := by
    rw [eW]; have h := Boxed.new ((w.alloc (.cells #[.func (.func fid) #[V] #[]] 52)).alloc (.cells #[.slice none 0 0] 23)) 3 (.int .i64 C); rw [World.size_alloc, World.size_alloc] at h; exact h
  have r0 : Row W (w.heap.size + 3) (.slice none 0 0) (ints (szs P (valsB ([] : List (SbS C))))) := World.ownsRow_nil W (w.heap.size + 3) 3 1
  rw [← eW]
  clear eW
  obtain ⟨n₀, en⟩ : ∃ n₀, n₀ = w.heap.size := ⟨_, rfl⟩
  rw [← en] at sW hBW b0 b1 b2 r0 HF ⊢
  have hle : n₀ ≤ w.heap.size := by omega
  have EN := Lib.hid en
  have SW := Lib.hid sW
  clear en sW
  refine wpIn_rangeFunc_ownF (α := SbS C) rfl (by omega) (gf := 76) (lb := #[.pointer (some ⟨n₀ + 1 + 1, 0, none⟩)]) rfl trivial (enters_of Tryd.func76 (by kernel_rfl) rfl)
    (sb_stops _ (n₀ + 1 + 1) C (by omega) HC.out W b2) keepB_t (fun W l o o' _ ho hc _ => keepB_b W l o o' ho hc) (Below.refl _ _) (fun _ => rfl)
    (fun pre Z => (SzI n₀ (.func (.func fid) #[V] #[]) P C pre Z ∧ n₀ + 3 ≤ Z.heap.size) ∧ Below n₀ w Z) (fun _ _ _ => False)
    (OwnFrom.and (OwnFrom.and (Own.from (szI_own _ _ _ _) _) (Own.from (size_own _) _)) (ownFrom_below hle (by have := SW.out; omega))) (fun _ _ _ _ _ hs _ _ => hs)
    ⟨⟨⟨b0, _, b1, r0⟩, by have := SW.out; omega⟩, hBW⟩
    (fun x => { tmps := #[.int .i64 C, .func (.func fid) #[V] #[], undef, .pointer (some ⟨n₀, 0, none⟩), .slice none 0 0, .pointer (some ⟨n₀ + 1, 0, none⟩), .int .i64 (x.1 : Int), .int .i64 C,
      .func (.func 76) #[] #[.pointer (some ⟨n₀ + 1 + 1, 0, none⟩)], .int .i64 (x.1 : Int), undef, undef, undef, undef, undef, undef, undef, undef, undef, undef], defers := [] }) ?assign ?body ?done ?stop
  case assign =>
    intro l x W K hK
    gi_wp2
    exact hK
  case body =>
    rintro l pre x Z ⟨⟨⟨c0, v, c1, hr⟩, hsz⟩, hB⟩ hlen
    have hst : szs P (valsB (pre ++ [x])) = szs P (valsB pre) ++ (if P x.1 = true then [pcf 15 x.1] else []) := by rw [valsB_snoc, szs_snoc]
    have hln : (ints (szs P (valsB pre))).length ≤ 100000 := by
      rw [ints_length]
      have h1 := szs_length P (valsB pre)
      have h2 : (valsB pre).length = pre.length := by simp [valsB]
      omega
    obtain ⟨pr, epr⟩ : ∃ pr, pr = pre ++ [x] := ⟨_, rfl⟩
    rw [← epr] at hst ⊢
    obtain ⟨s, hs⟩ := x
    dsimp only at hst ⊢
    have hs15 : s < 32768 := Nat.lt_of_le_of_lt (sub_le hs) HC.out
    have HFS := Lib.hid (HF.out Z s hB hs)
    obtain ⟨b, eb⟩ : ∃ b, b = P s := ⟨_, rfl⟩
    rw [← eb] at HFS hst
    have C0 := Lib.hid c0
    have C1 := Lib.hid c1
    have HR := Lib.hid hr
    have HB := Lib.hid hB
    have HST := Lib.hid hst
    have HLN := Lib.hid hln
    have HSZ := Lib.hid hsz
    have z0 := c0.cell
    clear c0 c1 hr hB hst hln hlen epr eb hs hsz
    cases b with
    | false =>
      have HV := Lib.hid (HST.out.trans (by rw [if_neg (by simp), List.append_nil]))
      gi_wp2_with (refine ⟨trivial, ?_⟩; refine (CallsIn.inRound l (callsIn_wide.2 HFS.out)).mono ?_; rintro e w1 ⟨rfl, hb1⟩)
      refine ⟨keeps_belowS hb1, fun x => (hb1.block _ x.lt).trans x, ⟨⟨(hb1.block _ C0.out.lt).trans C0.out, v, (hb1.block _ C1.out.lt).trans C1.out, ?_⟩, Nat.le_trans HSZ.out hb1.size⟩, HB.out.trans (hb1.mono (by have := HSZ.out; omega))⟩
      rw [HV.out]
      exact HR.out.below hb1
    | true =>
      have HV := Lib.hid (HST.out.trans (by rw [if_pos rfl]))
      clear HST
      have hcv : IntKind.u64.wrap (s : Int) = (s : Int) := by simp [IntKind.wrap, IntKind.bits, IntKind.signed]; omega
      have HON := Lib.hid (fun w => onesC s hs15 w)
      gi_wp2_with (refine ⟨trivial, ?_⟩; refine (CallsIn.inRound l (callsIn_wide.2 HFS.out)).mono ?_; rintro e w1 ⟨rfl, hb1⟩)
      obtain ⟨p, ep⟩ : ∃ p, p = pcf 15 s := ⟨_, rfl⟩
      rw [← ep] at HON HV
      have k0 : Boxed w1 n₀ 52 (.func (.func fid) #[V] #[]) := (hb1.block _ C0.out.lt).trans C0.out
      have k1 : Boxed w1 (n₀ + 1) 23 v := (hb1.block _ C1.out.lt).trans C1.out
      have kr : Row w1 (n₀ + 3) v (ints (szs P (valsB pre))) := HR.out.below hb1
      have hS0 : w1.drew.cell? ⟨n₀ + 1, 0, none⟩ = some v := k1.cell
      have hsz1 : n₀ + 3 ≤ w1.drew.heap.size := Nat.le_trans HSZ.out hb1.size
      have q1 : ∀ o, (w1.drew.alloc o).cell? ⟨n₀ + 1, 0, none⟩ = some v := fun o => ((show Boxed w1.drew (n₀ + 1) 23 v from k1).alloc o).cell
      have K0 := Lib.hid k0
      have K1 := Lib.hid k1
      have KR := Lib.hid kr
      have HB1 := Lib.hid hb1
      have HSZ1 := Lib.hid hsz1
      clear k0 k1 kr hb1 ep z0 C0 C1 HR hsz1
      refine wpIn_held_round 5 (fun W' => W'.cell? ⟨n₀ + 1, 0, none⟩ = some v) (by kernel_rfl) (by rfl) (by kernel_rfl) (by kernel_rfl) (by kernel_rfl) (by kernel_rfl) ?_
      simp only [List.take_succ_cons, List.take_zero, List.drop_succ_cons, List.drop_zero]
      refine wpAnyH_take (i := 0) (v := v) rfl (by kernel_rfl) (by kernel_rfl) (by kernel_rfl) (fun _ _ _ h => h) (Or.inl ⟨by rfl, ?_⟩) hS0 ?_
      · rintro w' q1
        go_simp
      simp only [Act.put, List.setIfInBounds_toArray]
      refine wpAnyH_take (i := 1) (v := .int .i64 (s : Int)) rfl (by kernel_rfl) (by kernel_rfl) (by kernel_rfl) (fun _ _ _ h => h) (Or.inl ⟨by rfl, ?_⟩) hS0 ?_
      · rintro w' q1
        go_simp
      simp only [Act.put, List.setIfInBounds_toArray]
      refine wpAnyH_rest 2 3 (by rfl) (by kernel_rfl) ?_
      simp only [List.drop_succ_cons, List.drop_zero]
      refine tailH_cons ?_
      go_wp2
      refine ⟨hS0, ?_⟩
      refine tailH_cons ?_
      go_wp2_with fail
      refine (HON.out _).mono ?_
      rintro e w2 ⟨rfl, rfl⟩
      go_wp2
      refine ⟨hS0, ?_⟩
      refine tailH_cons ?_
      go_wp2
      refine ⟨q1 _, ?_⟩
      change wpListIn _ _ _ _ _ _ _ _
      gi_wp2_with (gi_at_builtin; refine appendIn_one rfl (.tmp 13) (.tmp 17) rfl w1.drew (n₀ + 3) v (ints (szs P (valsB pre))) p rfl rfl KR.out HSZ1.out HLN.out ?_; intro v' w3 hr' hg'
                   obtain ⟨k1, k2, k3, k4, k5⟩ := (show Boxed w1.drew (n₀ + 1) 23 v from K1.out).appended (n₀ := n₀) (by decide) (Row.mono (show Row w1.drew (n₀ + 3) v _ from KR.out) (by omega)) (by have := HSZ1.out; omega) (by omega) (Row.mono hr' (by omega)) hg'
                   have k6 : Boxed w3 n₀ 52 (.func (.func fid) #[V] #[]) := (Boxed.alloc (W := w1.drew) (t := 52) K0.out _).kept hg' (Boxed.not_row (W := w1.drew) (t := 52) K0.out (by decide) KR.out)
                   have k8 : Row (w3.setCell ⟨n₀ + 1, 0, none⟩ v') (n₀ + 3) v' (ints (szs P (valsB pre)) ++ [(p : Int)]) := World.ownsRow.kept hr' (grownBy_setCell' w3 (n₀ + 1) v') (.inr (k1.not_row (by decide) hr').symm)
                   have k9 : KeepB (n₀ + 1 + 1) C w1.drew (w3.setCell ⟨n₀ + 1, 0, none⟩ v') := fun x => Boxed.other (((show Boxed w1.drew (n₀ + 1 + 1) 3 (.int .i64 C) from x).alloc _).kept hg' (fun e => by have := (KR.out.lt _ e.symm).1; omega)) (B' := n₀ + 1) (by omega) v'
                   obtain ⟨g, cap, rfl⟩ : ∃ g cap, v' = .slice (some ⟨g, 0, none⟩) ((ints (szs P (valsB pre))).length + 1) cap := by
                     have h0 := hr'
                     unfold Row at h0
                     rw [List.length_append] at h0
                     exact ownsRow_succ h0
                   have y0 := k1.cell
                   have y1 := k1.frozen
                   have K2 := Lib.hid k2
                   have K4 := Lib.hid k4
                   have K5 := Lib.hid k5
                   have K6 := Lib.hid (Boxed.other (t := 52) k6 (B' := n₀ + 1) (by omega))
                   have K8 := Lib.hid k8
                   have K9 := Lib.hid k9
                   clear hr' hg' k1 k2 k3 k4 k5 k6 k8 k9)
      have hbz : Below n₀ Z _ := (HB1.out.mono (by have := HSZ.out; omega)).trans (((Below.refl n₀ w1).drew).trans K5.out)
      refine ⟨(keeps_belowS HB1.out).trans ((KeepsOthers.drew _).trans K4.out), fun x => K9.out ((HB1.out.block _ x.lt).trans x), ⟨⟨K6.out _, _, K2.out, ?_⟩, Nat.le_trans HSZ.out hbz.size⟩, HB.out.trans hbz⟩
      rw [HV.out]
      unfold ints at K8 ⊢
      rw [List.map_append]
      exact K8.out
  case done =>
    rintro D xs Z hD hS ⟨⟨⟨c0, v, c1, hr⟩, hsz⟩, hB⟩ hK
    rw [hS] at hr
    have z1 := c1.cell
    obtain ⟨A1, cc1, rfl, s1⟩ := hr.seen
    have HR := Lib.hid hr
    clear hr hS c0 s1
    gi_wp2
    refine ⟨by simp, .inl ⟨_, _, rfl, run_takeDeferred hK, ?_⟩⟩
    refine ⟨_, results_tmp rfl _ _ _, ?_⟩
    refine ⟨_, rfl, ?_, ?_⟩
    · rw [← EN.out]
      exact ownsRow_putObj (Row.mono HR.out (by omega)) (.deferred none) hK rfl
    · rw [← EN.out]
      exact hB.trans (belowK_b (w := w) hle Z D _ _ (by have := SW.out; have := EN.out; omega) hK rfl rfl)
  case stop =>
    rintro D cd pre W _ _ h _
    exact h.elim
end Go.Proofs.YtfhaeocgbihddaaDoor

/- slices.Max and slices.Min of a list of small numbers. -/


namespace Go.Proofs.YtfhaeocgbihddaaDoor
open Go Go.RowKit
set_option linter.unusedVariables false
set_option maxRecDepth 100000

def mxvTo (zs : List Nat) : Nat → Nat
  | 0 => 0
  | k + 1 => max (mxvTo zs k) (zs[k]?.getD 0)
theorem mxv_facts (zs : List Nat) (k : Nat) (hk : k + 1 ≤ zs.length) : mxvTo zs (k + 1) ∈ zs ∧ ∀ j, j ≤ k → zs[j]?.getD 0 ≤ mxvTo zs (k + 1) := by
  induction k with
  | zero =>
    have e : mxvTo zs 1 = zs[0]?.getD 0 := by show max _ _ = _; simp [mxvTo]
    rw [e]
    refine ⟨?_, fun j hj => ?_⟩
    · rw [List.getElem?_eq_getElem (by omega)]; exact List.getElem_mem _
    · have : j = 0 := by omega
      subst this; exact Nat.le_refl _
  | succ k ih =>
    obtain ⟨h1, h2⟩ := ih (by omega)
    have e : mxvTo zs (k + 1 + 1) = max (mxvTo zs (k + 1)) (zs[k + 1]?.getD 0) := rfl
    have hm : zs[k + 1]?.getD 0 ∈ zs := by rw [List.getElem?_eq_getElem (by omega)]; exact List.getElem_mem _
    rw [e]
    refine ⟨?_, fun j hj => ?_⟩
    · rcases Nat.le_total (mxvTo zs (k + 1)) (zs[k + 1]?.getD 0) with h | h
      · first | (rw [Nat.max_eq_right h]; exact hm) | (rw [Nat.min_eq_left h]; exact h1)
      · first | (rw [Nat.max_eq_left h]; exact h1) | (rw [Nat.min_eq_right h]; exact hm)
    · rcases Nat.lt_or_ge j (k + 1) with h | h
      · have := h2 j (by omega)
        omega
      · have : j = k + 1 := by omega
        subst this; omega
theorem mxv_is {zs : List Nat} {m : Nat} (h : IsMax zs m) : 1 ≤ zs.length ∧ mxvTo zs zs.length = m := by
  have hl : 1 ≤ zs.length := List.length_pos_iff.2 (fun e => by rw [e] at h; exact absurd h.1 (by simp))
  obtain ⟨k, ek⟩ : ∃ k, zs.length = k + 1 := ⟨zs.length - 1, by omega⟩
  refine ⟨hl, ?_⟩
  obtain ⟨h1, h2⟩ := mxv_facts zs k (by omega)
  rw [ek]
  have h3 := h.2 _ h1
  obtain ⟨j, hj, e⟩ := List.getElem_of_mem h.1
  have h4 := h2 j (by omega)
  rw [List.getElem?_eq_getElem hj, e] at h4
  simp only [Option.getD_some] at h4
  omega
set_option maxHeartbeats 1000000 in
theorem slicesMax (A : Option Addr) (c : Nat) (zs : List Nat) (m : Nat) (hm : IsMax zs m) (hs : ∀ x ∈ zs, x ≤ 15) (hl : zs.length ≤ 40000) (w : World) (h : Seen w A (ints zs)) :
    Calls Tryd.prog 51 #[.slice A (ints zs).length c] w fun e w' => e = .returned (.int .i64 (m : Nat)) ∧ w = w' := by
  obtain ⟨h1, h2⟩ := mxv_is hm
  rw [ints_length]
  obtain ⟨b, off, rfl, _, _⟩ := h 0 (by rw [ints_length]; omega)
  obtain ⟨n, hn⟩ : ∃ n, n = zs.length := ⟨_, rfl⟩
  have H : Hid (∀ k, k < n → w.cell? ⟨b, off + k, none⟩ = some (.int .i64 (zs[k]?.getD 0 : Nat)) ∧ zs[k]?.getD 0 ≤ 15) := Lib.hid fun k hk => by
    obtain ⟨b', off', a, _, hc⟩ := h k (by rw [ints_length]; omega)
    injection a with a
    injection a with a1 a2
    subst a1 a2
    rw [ints_get] at hc
    refine ⟨hc, ?_⟩
    rw [List.getElem?_eq_getElem (by omega)]
    exact hs _ (List.getElem_mem _)
  have HK : Hid (∀ k, 1 ≤ k → k ≤ n → mxvTo zs k ≤ 15) := Lib.hid fun k h1 hk => by
    obtain ⟨j, rfl⟩ : ∃ j, k = j + 1 := ⟨k - 1, by omega⟩
    exact hs _ (mxv_facts zs j (by omega)).1
  have HS : Hid (∀ k, mxvTo zs (k + 1) = max (mxvTo zs k) (zs[k]?.getD 0)) := Lib.hid fun k => rfl
  have H1 : Hid (mxvTo zs 1 = zs[0]?.getD 0) := Lib.hid (by show max _ _ = _; simp [mxvTo])
  rw [← hn] at h1 h2 hl ⊢
  have HM := Lib.hid h2
  clear h hm hs hn h2
  obtain ⟨c0, d0⟩ := H.out 0 (by omega)
  rw [Nat.add_zero] at c0
  have hd : decide ((n : Int) < 1) = false := by simp; omega
  obtain ⟨z0, ez⟩ : ∃ z0, z0 = zs[0]?.getD 0 := ⟨_, rfl⟩
  rw [← ez] at c0 d0 H1
  clear ez
  have hi1 : (0 : Int) < (n : Int) := by omega
  go_enter Tryd.func51, Tryd.ntmps51
  go_wp2
  go_loop [3, 4] (fun x i => ∃ k : Nat, 1 ≤ k ∧ k ≤ n ∧ i = .int .i64 k ∧ x = .int .i64 (mxvTo zs k : Nat)) (fun _ i => n - (intOf i).toNat)
  case atStart => exact ⟨1, Nat.le_refl _, h1, rfl, by rw [H1.out]⟩
  case round =>
    obtain ⟨k, hk1, hk, rfl, rfl⟩ := hrel
    have hx := HK.out k hk1 hk
    by_cases hlt : k < n
    · obtain ⟨ck, dk⟩ := H.out k hlt
      have hst := HS.out k
      obtain ⟨x, ex⟩ : ∃ x, x = mxvTo zs k := ⟨_, rfl⟩
      obtain ⟨z, ez⟩ : ∃ z, z = zs[k]?.getD 0 := ⟨_, rfl⟩
      rw [← ex] at hx hst ⊢
      rw [← ez] at ck dk hst
      have HST := Lib.hid hst
      clear ex ez hst
      go_wp2
      go_round
      case rel => exact ⟨k + 1, by omega, by omega, by go_num, by rw [HST.out]; congr 1; split <;> omega⟩
      case measure => simp [intOf]; omega
    · have hke : k = n := by omega
      subst hke
      go_wp2
      go_ret
      exact ⟨by rw [← HM.out]; rfl, rfl⟩
def mnvTo (zs : List Nat) : Nat → Nat
  | 0 => zs[0]?.getD 0
  | k + 1 => min (mnvTo zs k) (zs[k]?.getD 0)
theorem mnv_facts (zs : List Nat) (k : Nat) (hk : k + 1 ≤ zs.length) : mnvTo zs (k + 1) ∈ zs ∧ ∀ j, j ≤ k → zs[j]?.getD 0 ≥ mnvTo zs (k + 1) := by
  induction k with
  | zero =>
    have e : mnvTo zs 1 = zs[0]?.getD 0 := by show min _ _ = _; simp [mnvTo]
    rw [e]
    refine ⟨?_, fun j hj => ?_⟩
    · rw [List.getElem?_eq_getElem (by omega)]; exact List.getElem_mem _
    · have : j = 0 := by omega
      subst this; exact Nat.le_refl _
  | succ k ih =>
    obtain ⟨h1, h2⟩ := ih (by omega)
    have e : mnvTo zs (k + 1 + 1) = min (mnvTo zs (k + 1)) (zs[k + 1]?.getD 0) := rfl
    have hm : zs[k + 1]?.getD 0 ∈ zs := by rw [List.getElem?_eq_getElem (by omega)]; exact List.getElem_mem _
    rw [e]
    refine ⟨?_, fun j hj => ?_⟩
    · rcases Nat.le_total (mnvTo zs (k + 1)) (zs[k + 1]?.getD 0) with h | h
      · first | (rw [Nat.max_eq_right h]; exact hm) | (rw [Nat.min_eq_left h]; exact h1)
      · first | (rw [Nat.max_eq_left h]; exact h1) | (rw [Nat.min_eq_right h]; exact hm)
    · rcases Nat.lt_or_ge j (k + 1) with h | h
      · have := h2 j (by omega)
        omega
      · have : j = k + 1 := by omega
        subst this; omega
theorem mnv_is {zs : List Nat} {m : Nat} (h : IsMin zs m) : 1 ≤ zs.length ∧ mnvTo zs zs.length = m := by
  have hl : 1 ≤ zs.length := List.length_pos_iff.2 (fun e => by rw [e] at h; exact absurd h.1 (by simp))
  obtain ⟨k, ek⟩ : ∃ k, zs.length = k + 1 := ⟨zs.length - 1, by omega⟩
  refine ⟨hl, ?_⟩
  obtain ⟨h1, h2⟩ := mnv_facts zs k (by omega)
  rw [ek]
  have h3 := h.2 _ h1
  obtain ⟨j, hj, e⟩ := List.getElem_of_mem h.1
  have h4 := h2 j (by omega)
  rw [List.getElem?_eq_getElem hj, e] at h4
  simp only [Option.getD_some] at h4
  omega
set_option maxHeartbeats 1000000 in
theorem slicesMin (A : Option Addr) (c : Nat) (zs : List Nat) (m : Nat) (hm : IsMin zs m) (hs : ∀ x ∈ zs, x ≤ 15) (hl : zs.length ≤ 40000) (w : World) (h : Seen w A (ints zs)) :
    Calls Tryd.prog 57 #[.slice A (ints zs).length c] w fun e w' => e = .returned (.int .i64 (m : Nat)) ∧ w = w' := by
  obtain ⟨h1, h2⟩ := mnv_is hm
  rw [ints_length]
  obtain ⟨b, off, rfl, _, _⟩ := h 0 (by rw [ints_length]; omega)
  obtain ⟨n, hn⟩ : ∃ n, n = zs.length := ⟨_, rfl⟩
  have H : Hid (∀ k, k < n → w.cell? ⟨b, off + k, none⟩ = some (.int .i64 (zs[k]?.getD 0 : Nat)) ∧ zs[k]?.getD 0 ≤ 15) := Lib.hid fun k hk => by
    obtain ⟨b', off', a, _, hc⟩ := h k (by rw [ints_length]; omega)
    injection a with a
    injection a with a1 a2
    subst a1 a2
    rw [ints_get] at hc
    refine ⟨hc, ?_⟩
    rw [List.getElem?_eq_getElem (by omega)]
    exact hs _ (List.getElem_mem _)
  have HK : Hid (∀ k, 1 ≤ k → k ≤ n → mnvTo zs k ≤ 15) := Lib.hid fun k h1 hk => by
    obtain ⟨j, rfl⟩ : ∃ j, k = j + 1 := ⟨k - 1, by omega⟩
    exact hs _ (mnv_facts zs j (by omega)).1
  have HS : Hid (∀ k, mnvTo zs (k + 1) = min (mnvTo zs k) (zs[k]?.getD 0)) := Lib.hid fun k => rfl
  have H1 : Hid (mnvTo zs 1 = zs[0]?.getD 0) := Lib.hid (by show min _ _ = _; simp [mnvTo])
  rw [← hn] at h1 h2 hl ⊢
  have HM := Lib.hid h2
  clear h hm hs hn h2
  obtain ⟨c0, d0⟩ := H.out 0 (by omega)
  rw [Nat.add_zero] at c0
  have hd : decide ((n : Int) < 1) = false := by simp; omega
  obtain ⟨z0, ez⟩ : ∃ z0, z0 = zs[0]?.getD 0 := ⟨_, rfl⟩
  rw [← ez] at c0 d0 H1
  clear ez
  have hi1 : (0 : Int) < (n : Int) := by omega
  go_enter Tryd.func57, Tryd.ntmps57
  go_wp2
  go_loop [3, 4] (fun x i => ∃ k : Nat, 1 ≤ k ∧ k ≤ n ∧ i = .int .i64 k ∧ x = .int .i64 (mnvTo zs k : Nat)) (fun _ i => n - (intOf i).toNat)
  case atStart => exact ⟨1, Nat.le_refl _, h1, rfl, by rw [H1.out]⟩
  case round =>
    obtain ⟨k, hk1, hk, rfl, rfl⟩ := hrel
    have hx := HK.out k hk1 hk
    by_cases hlt : k < n
    · obtain ⟨ck, dk⟩ := H.out k hlt
      have hst := HS.out k
      obtain ⟨x, ex⟩ : ∃ x, x = mnvTo zs k := ⟨_, rfl⟩
      obtain ⟨z, ez⟩ : ∃ z, z = zs[k]?.getD 0 := ⟨_, rfl⟩
      rw [← ex] at hx hst ⊢
      rw [← ez] at ck dk hst
      have HST := Lib.hid hst
      clear ex ez hst
      go_wp2
      go_round
      case rel => exact ⟨k + 1, by omega, by omega, by go_num, by rw [HST.out]; congr 1; split <;> omega⟩
      case measure => simp [intOf]; omega
    · have hke : k = n := by omega
      subst hke
      go_wp2
      go_ret
      exact ⟨by rw [← HM.out]; rfl, rfl⟩
end Go.Proofs.YtfhaeocgbihddaaDoor

/- A set less another one. -/


namespace Go.Proofs.YtfhaeocgbihddaaDoor
open Go Go.RowKit

/-- The nodes of one set that are none of the other one's. -/
def less (a b : Nat) : Nat := a &&& (18446744073709551615 - b)
theorem less_le (a b : Nat) : less a b ≤ a := Nat.and_le_left
theorem less_op (a b : Nat) (ha : a < 1048576) (hb : b < 1048576) : bits .andNot .i64 (a : Int) (b : Int) = ((less a b : Nat) : Int) := i64_andNot_nat a b (by omega) (by omega)
end Go.Proofs.YtfhaeocgbihddaaDoor

/- The other graph, as a list. Plain mathematics, no condition. -/


namespace Go.Proofs.YtfhaeocgbihddaaDoor
open Go Go.RowKit
set_option linter.unusedVariables false
set_option maxRecDepth 100000

/-- The other neighbours of a node. -/
def oth (L : List Int) (k : Nat) : Nat := less (less (2 ^ L.length - 1) (ent L k)) (2 ^ k)
def otherL (L : List Int) (k : Nat) : List Int := (List.range k).map fun i => ((oth L i : Nat) : Int)
theorem otherL_zero (L : List Int) : otherL L 0 = [] := rfl
theorem otherL_succ (L : List Int) (k : Nat) : otherL L (k + 1) = otherL L k ++ [((oth L k : Nat) : Int)] := by simp [otherL, List.range_succ]
theorem otherL_length (L : List Int) (k : Nat) : (otherL L k).length = k := by simp [otherL]

/-- What the operations yield at one node. -/
theorem oth_step {L : List Int} (hg : IsGraph L) {k : Nat} (hk : k < L.length) : ∃ X P Q p y z : Nat, L[k]?.getD 0 = (X : Int) ∧ X < 64 ∧ Q + 1 = 2 ^ L.length ∧ (wrap64 ((2 : Int) ^ L.length) = (P : Int) ∧ IntKind.i64.wrap ((2 : Int) ^ L.length) = (P : Int) ∧ (P : Int) - 1 = (Q : Int) ∧ IntKind.i64.wrap ((P : Int) - 1) = (Q : Int) ∧ IntKind.i64.wrap (Q : Int) = (Q : Int)) ∧
    (wrap64 ((2 : Int) ^ k) = (p : Int) ∧ IntKind.i64.wrap ((2 : Int) ^ k) = (p : Int)) ∧ bits .andNot .i64 (Q : Int) (X : Int) = (y : Int) ∧ bits .andNot .i64 (y : Int) (p : Int) = (z : Int) ∧ z = oth L k := by
  have h6 := hg.2.1
  have hin := (hg.2.2 k hk).1
  have hX := ent_int hin
  have hXl := ent_lt hin
  have h64 := two_le h6
  have hX64 : ent L k < 64 := by omega
  have hk6 : k ≤ 6 := by omega
  clear hin hXl h64 hk
  obtain ⟨P, Q, hP, hQ, hP64, pf⟩ := shl_facts L.length h6
  have HPF := Lib.hid pf
  clear pf
  have hQ64 : Q < 64 := by omega
  have hQ2 : Q + 1 = 2 ^ L.length := by omega
  obtain ⟨P2, Q2, hP2, hQ22, hP264, qf⟩ := shl_facts k hk6
  have HQF := Lib.hid qf
  clear qf
  have f1 := less_op Q (ent L k) (Nat.lt_trans hQ64 (by decide)) (Nat.lt_trans hX64 (by decide))
  have hy : less Q (ent L k) < 64 := Nat.lt_of_le_of_lt (less_le Q (ent L k)) hQ64
  have f2 := less_op (less Q (ent L k)) P2 (Nat.lt_trans hy (by decide)) (Nat.lt_of_le_of_lt hP264 (by decide))
  have e : 2 ^ L.length - 1 = Q := by rw [← hQ2]; rfl
  obtain ⟨p1, p2, p3, p4, p5⟩ := HPF.out
  obtain ⟨q1, q2, _, _, _⟩ := HQF.out
  refine ⟨ent L k, P, Q, P2, less Q (ent L k), less (less Q (ent L k)) P2, hX, hX64, hQ2, ⟨p1, p2, p3, p4, p5⟩, ⟨q1, q2⟩, f1, f2, ?_⟩
  unfold oth
  rw [e, ← hP2]
end Go.Proofs.YtfhaeocgbihddaaDoor

/- The program's other graph, of a list that is a graph. -/







namespace Go.Proofs.YtfhaeocgbihddaaDoor
open Go.RowKit Go.Shelf
attribute [local go_sem] Oper.semAt_some
set_option linter.unusedVariables false
set_option maxRecDepth 100000

theorem nodes_every : ∀ n : Fin 7, nodesL (2 ^ n.val - 1) = List.range n.val := by decide
/-- Some places set. -/
def osets (L : List Int) (ps : List Nat) : List Nat := ps.foldl (fun acc v => acc.set v (oth L v)) (List.replicate L.length 0)
theorem osets_snoc (L : List Int) (ps : List Nat) (v : Nat) : osets L (ps ++ [v]) = (osets L ps).set v (oth L v) := by simp [osets]
theorem osets_length (L : List Int) (ps : List Nat) : (osets L ps).length = L.length := by
  induction ps using snoc_ind with
  | h0 => simp [osets]
  | h1 l x ih => rw [osets_snoc, List.length_set, ih]
theorem osets_range (L : List Int) (k : Nat) (hk : k ≤ L.length) : osets L (List.range k) = (List.range k).map (oth L) ++ List.replicate (L.length - k) 0 := by
  induction k with
  | zero => simp [osets]
  | succ k ih =>
    rw [List.range_succ, osets_snoc, ih (by omega)]
    have hl : ((List.range k).map (oth L)).length = k := by simp
    have e : L.length - k = (L.length - (k + 1)) + 1 := by omega
    rw [List.set_append_right _ _ (by omega), hl, Nat.sub_self, e, List.replicate_succ, List.set_cons_zero]
    simp
theorem osets_all (L : List Int) : ints (osets L (List.range L.length)) = otherL L L.length := by
  rw [osets_range L L.length (Nat.le_refl _), Nat.sub_self, List.replicate_zero, List.append_nil]
  unfold ints otherL
  rw [List.map_map]
  rfl
def OthI (n₀ g n : Nat) (S : Value) (L : List Int) (Q : Nat) (pre : List (Nd n Q)) (W : World) : Prop :=
  Boxed W n₀ 34 S ∧ Boxed W (n₀ + 1 + 1) 34 (.slice (some ⟨g, 0, none⟩) n n) ∧ Row W n₀ (.slice (some ⟨g, 0, none⟩) n n) (ints (osets L (valsN pre)))
theorem othI_own (n₀ g n : Nat) (S : Value) (L : List Int) (Q : Nat) : Own (OthI n₀ g n S L Q) := fun s X Y row hs hg hr =>
  ⟨boxed_own _ _ (fun _ : Unit => _) () X Y row hs.1 hg hr, boxed_own _ _ (fun _ : Unit => _) () X Y row hs.2.1 hg hr, row_kept hs.2.2 hg hr⟩

set_option maxRecDepth 100000 in
set_option maxHeartbeats 2000000 in
theorem implOther_in (A : Option Addr) (c : Nat) (L : List Int) (hg : IsGraph L) (w : World) (h : Seen w A L) (hT : Tab w) :
    CallsIn Fence.wide 6 Tryd.prog 34 #[.slice A L.length c] w (Gave w (otherL L L.length)) := by
  have h1 := hg.1
  have h6 := hg.2.1
  obtain ⟨blk, off, hA0, hbl0, _⟩ := h 0 (by omega)
  obtain ⟨n, hn⟩ : ∃ n, n = L.length := ⟨_, rfl⟩
  have hp := two_pos n
  obtain ⟨Q, hQ⟩ : ∃ Q, Q + 1 = 2 ^ n := ⟨2 ^ n - 1, by omega⟩
  have hmk := run_make_graph n (by omega)
  have hms : ∀ x, (madeW x n).heap.size = x.heap.size + 1 := fun x => madeW_size x n
  rw [← hn] at h1 h6 ⊢
  subst hA0
  have X0 : Boxed (madeW (w.alloc (.cells #[.slice (some ⟨blk, off, none⟩) n c] 34)) n) w.heap.size 34 (.slice (some ⟨blk, off, none⟩) n c) := (Boxed.new w _ _).alloc _
  have x0 := X0.cell
  have HN := Lib.hid hn
  have H := Lib.hid h
  have HG := Lib.hid hg
  have HQ := Lib.hid hQ
  have TB := Lib.hid hT
  clear h hg hn hQ hT hp
  refine callsIn_of_wp_marks Tryd.func34 rfl trivial ?_ rfl
  simp only [Tryd.ntmps34, List.size_toArray, List.length_cons, List.length_nil, Nat.reduceAdd, Nat.reduceSub, Array.replicate_succ, Array.replicate_zero, List.push_toArray, List.append_toArray, List.nil_append, List.cons_append]
  gi_wp2_with (refine ⟨trivial, ?_⟩; gi_at_call 56; refine (callsIn_wide.2 (nodes_any _ n c Q h6 HQ.out _)).mono ?_; rintro e w' ⟨rfl, rfl⟩)
  have R0 := madeW_row (w.alloc (.cells #[.slice (some ⟨blk, off, none⟩) n c] 34)) n (by omega)
  have M0 := madeW_below (w.alloc (.cells #[.slice (some ⟨blk, off, none⟩) n c] 34)) n
  have S0 := hms (w.alloc (.cells #[.slice (some ⟨blk, off, none⟩) n c] 34))
  clear hmk hms x0
  obtain ⟨w1, e1⟩ : ∃ w1, w1 = madeW (w.alloc (.cells #[.slice (some ⟨blk, off, none⟩) n c] 34)) n := ⟨_, rfl⟩
  rw [← e1] at R0 M0 S0 X0 ⊢
  rw [World.size_alloc] at R0 M0 S0
  have hB1 : Below w.heap.size w w1 := ((Below.refl _ w).alloc (Nat.le_refl _) _).trans (M0.mono (by omega))
  clear e1
  obtain ⟨W, eW⟩ : ∃ W, W = (w1.alloc (.cells #[.slice (some ⟨w.heap.size + 1, 0, none⟩) n n] 34)).alloc (.cells #[.int .i64 (Q : Nat)] 3) := ⟨_, rfl⟩
  have sW : W.heap.size = w.heap.size + 1 + 1 + 1 + 1 := by rw [eW]; simp [S0]
  have hBW : Below w.heap.size w W := by rw [eW]; exact (hB1.alloc (by omega) _).alloc (by simp; omega) _
  have b0 : Boxed W w.heap.size 34 (.slice (some ⟨blk, off, none⟩) n c) := by rw [eW]; exact (X0.alloc _).alloc _
  have b2 : Boxed W (w.heap.size + 1 + 1) 34 (.slice (some ⟨w.heap.size + 1, 0, none⟩) n n) := by
    rw [eW]; have h := Boxed.new w1 34 (.slice (some ⟨w.heap.size + 1, 0, none⟩) n n); rw [S0] at h; exact h.alloc _
  have b4 : W.cell? ⟨w.heap.size + 1 + 1 + 1, 0, none⟩ = some (.int .i64 (Q : Nat)) := by
    rw [eW]; have h := Boxed.new (w1.alloc (.cells #[.slice (some ⟨w.heap.size + 1, 0, none⟩) n n] 34)) 3 (.int .i64 (Q : Nat)); rw [World.size_alloc, S0] at h; exact h.cell
  have r0 : Row W w.heap.size (.slice (some ⟨w.heap.size + 1, 0, none⟩) n n) (ints (List.replicate n 0)) := by
    rw [eW]; exact (((R0.mono (by omega)).alloc _).alloc _)
  rw [← eW]
  clear eW S0 X0 R0 M0 hB1
  obtain ⟨n₀, en⟩ : ∃ n₀, n₀ = w.heap.size := ⟨_, rfl⟩
  have h2 : 2 ≤ n₀ := by have := TB.out.lt; omega
  rw [← en] at sW hBW b0 b2 b4 r0 hbl0 ⊢
  have EN := Lib.hid en
  have SW := Lib.hid sW
  have hle : n₀ ≤ w.heap.size := by omega
  have hleW : n₀ + 1 + 1 + 1 < W.heap.size := by omega
  clear en sW
  have hQ2 : Q < 2 ^ n := by have := HQ.out; omega
  have hT1 : Tab W := TB.out.below hBW h2
  have r1 : Row W n₀ (.slice (some ⟨n₀ + 1, 0, none⟩) n n) (ints (osets L [])) := by rw [HN.out]; rw [HN.out] at r0; exact r0
  have hgn : n₀ + 1 < W.heap.size := by omega
  refine wpIn_rangeFunc_ownF (α := Nd n Q) rfl (by omega) (gf := 74) (lb := #[.pointer (some ⟨n₀ + 1 + 1 + 1, 0, none⟩)]) rfl trivial (enters_of Tryd.func74 (by kernel_rfl) rfl)
    (nodes_stops _ (n₀ + 1 + 1 + 1) n Q n₀ (by omega) h6 hQ2 W hleW b4 hT1 h2 (by omega)) belowK_t (belowK_b (by omega)) (Below.refl _ _) (fun _ => rfl)
    (fun pre W => OthI n₀ (n₀ + 1) n (.slice (some ⟨blk, off, none⟩) n c) L Q pre W ∧ Below n₀ w W) (fun _ _ _ => False)
    (OwnFrom.and (Own.from (othI_own _ _ _ _ _ _) _) (ownFrom_below hle (by omega))) (fun _ _ _ _ _ hs _ _ => hs)
    ⟨⟨b0, b2, r1⟩, hBW⟩
    (fun x => { tmps := #[.slice (some ⟨blk, off, none⟩) n c, .pointer (some ⟨n₀, 0, none⟩), .slice none 0 0, .pointer (some ⟨n₀ + 1 + 1, 0, none⟩), .int .i64 (x.1 : Int), .slice (some ⟨blk, off, none⟩) n c, .int .i64 n, .slice (some ⟨n₀ + 1, 0, none⟩) n n, .slice (some ⟨blk, off, none⟩) n c,
      .func (.func 74) #[] #[.pointer (some ⟨n₀ + 1 + 1 + 1, 0, none⟩)], .int .i64 (x.1 : Int), undef, undef, undef, undef, undef, undef, undef, undef, undef, undef, undef, undef, undef, undef], defers := [] }) ?assign ?body ?done ?stop
  case assign =>
    intro l x W K hK
    gi_wp2
    exact hK
  case body =>
    rintro l pre x Wr ⟨⟨c0, c2, hr⟩, hB⟩ hlen
    obtain ⟨v, hvn, hvq⟩ := x
    dsimp only at hvn ⊢
    have hvL : v < L.length := by have := HN.out; omega
    obtain ⟨blk1, off1, hA1, hbl1, hc1⟩ := H.out v hvL
    have e1 : blk = blk1 ∧ off = off1 := by injection hA1 with e; injection e with e1 e2; exact ⟨e1, e2⟩
    obtain ⟨rfl, rfl⟩ := e1
    obtain ⟨X, P, Q', p, y, z, eX, hX64, hQ', pf, qf, f1, f2, ez⟩ := oth_step HG.out hvL
    rw [eX] at hc1
    have hQQ : Q' = Q := by have := HQ.out; rw [← HN.out] at hQ'; omega
    subst hQQ
    have hcv : Wr.cell? ⟨blk, off + v, none⟩ = some (.int .i64 X) := (hB.cell (p := ⟨blk, off + v, none⟩) hbl0).trans hc1
    obtain ⟨q1, q2⟩ := qf
    have hlen2 : v < (ints (osets L (valsN pre))).length := by rw [ints_length, osets_length]; exact hvL
    obtain ⟨old, eo⟩ : ∃ old, old = (ints (osets L (valsN pre)))[v]?.getD 0 := ⟨_, rfl⟩
    have hgc : Wr.cell? ⟨n₀ + 1, v, none⟩ = some (.int .i64 old) := by rw [eo]; exact hr.cellAt v hlen2
    have hgf : Wr.frozen? ⟨n₀ + 1, v, none⟩ = false := hr.frozenAt v hlen2
    have rs := hr.set v hlen2 (z : Int)
    rw [ints_set] at rs
    have es : (osets L (valsN pre)).set v z = osets L (valsN (pre ++ [(⟨v, hvn, hvq⟩ : Nd n Q')])) := by rw [valsN_snoc, osets_snoc, ez]
    rw [es] at rs
    have RS := Lib.hid rs
    have HR := Lib.hid hr
    have C0 := Lib.hid c0
    have C2 := Lib.hid c2
    have z0 := c0.cell
    have z2 := c2.cell
    have hi1 : (0 : Int) ≤ (v : Int) ∧ (v : Int) < (n : Int) := by omega
    have hmx : Tryd.prog.follows .mixedOrders = true := by kernel_rfl
    clear c0 c2 hr rs es eo hlen2 eX ez pf hQ' hA1 hbl1 hc1 hvL
    have gk := grown_drew (grown_set (World.grownBy.refl Wr (some (n₀ + 1))) v (.int .i64 (z : Int)))
    have FIN := Lib.hid (show KeepsOthers Wr (Wr.setCell ⟨n₀ + 1, v, none⟩ (.int .i64 (z : Int))).drew ∧ Below n₀ Wr (Wr.setCell ⟨n₀ + 1, v, none⟩ (.int .i64 (z : Int))).drew ∧
      (OthI n₀ (n₀ + 1) n (.slice (some ⟨blk, off, none⟩) n c) L Q' (pre ++ [(⟨v, hvn, hvq⟩ : Nd n Q')]) (Wr.setCell ⟨n₀ + 1, v, none⟩ (.int .i64 (z : Int))).drew ∧ Below n₀ w (Wr.setCell ⟨n₀ + 1, v, none⟩ (.int .i64 (z : Int))).drew) from
      ⟨(KeepsOthers.setCell _ _ _).trans (KeepsOthers.drew _), ((Below.refl n₀ Wr).setCell (p := ⟨n₀ + 1, v, none⟩) (by show n₀ ≤ n₀ + 1; omega) _).drew,
        ⟨C0.out.kept gk (fun e => by injection e; omega), C2.out.kept gk (fun e => by injection e; omega), RS.out⟩, (hB.setCell (p := ⟨n₀ + 1, v, none⟩) (by show n₀ ≤ n₀ + 1; omega) _).drew⟩)
    have HAL := Lib.hid (fun w => all_any (some ⟨blk, off, none⟩) n c Q' h6 HQ.out w)
    clear gk
    obtain ⟨w2, ew2⟩ : ∃ w2, w2 = Wr.drew := ⟨_, rfl⟩
    have hgc2 : w2.cell? ⟨n₀ + 1, v, none⟩ = some (.int .i64 old) := by rw [ew2]; exact hgc
    have hgf2 : w2.frozen? ⟨n₀ + 1, v, none⟩ = false := by rw [ew2]; exact hgf
    have EW2 := Lib.hid ew2
    clear ew2
    gi_wp2
    refine wpIn_tail_round 13 (by kernel_rfl) (by kernel_rfl) (by kernel_rfl) ?_
    simp only [List.take_succ_cons, List.take_zero, List.drop_succ_cons, List.drop_zero]
    still_step
    still_step
    still_step
    still_call ((HAL.out _).mono fun e w' ⟨he, hw⟩ => ⟨he, hw.symm⟩)
    repeat still_step
    refine wpStill_nil ?_
    rw [← EW2.out]
    gi_wp2
    rw [EW2.out]
    exact FIN.out
  case done =>
    rintro D xs Wr hD hS ⟨⟨c0, c2, hr⟩, hB⟩ hK
    have z2 := c2.cell
    have HS := Lib.hid hS
    have HR := Lib.hid hr
    clear hS hr
    gi_wp2
    refine ⟨by simp, .inl ⟨_, _, rfl, run_takeDeferred hK, ?_⟩⟩
    refine ⟨_, results_tmp rfl _ _ _, ?_⟩
    refine ⟨_, rfl, ?_, ?_⟩
    · rw [← EN.out]
      have h0 := ownsRow_putObj HR.out (.deferred none) hK rfl
      have e : ints (osets L (valsN xs)) = otherL L n := by
        rw [HS.out]
        have e2 : Q = 2 ^ n - 1 := by have := HQ.out; omega
        have e3 := nodes_every ⟨n, by omega⟩
        dsimp only at e3
        rw [e2, e3, HN.out, osets_all]
      rw [e] at h0
      exact h0
    · rw [← EN.out]
      exact hB.trans (belowK_b (w := w) hle Wr D _ _ (by have := EN.out; omega) hK rfl rfl)
  case stop =>
    rintro D cd pre W _ _ h _
    exact h.elim
end Go.Proofs.YtfhaeocgbihddaaDoor

/- Which sets of nodes are watching: the program. -/





namespace Go.Proofs.YtfhaeocgbihddaaDoor
open Go.RowKit Go.Shelf
attribute [local go_sem] Oper.semAt_some
set_option linter.unusedVariables false
set_option maxRecDepth 100000

theorem metTo_wide (L : List Int) (s k : Nat) : metTo L s k = wide L s ((List.range k).filter (inS s)) := by
  induction k with
  | zero => rfl
  | succ k ih =>
    rw [metTo_succ, List.range_succ, List.filter_append, ih]
    unfold metStep
    cases h : inS s k with
    | false => simp [h]
    | true =>
      rw [if_pos rfl, show [k].filter (inS s) = [k] by simp [h], wide_snoc]
theorem nodes_range {s n : Nat} (hs : s < 2 ^ n) (hn : n ≤ 6) : nodesL s = (List.range n).filter (inS s) := by
  have h1 : nodesL s = (List.range 6).filter (inS s) := by
    unfold nodesL
    congr 1
    funext v
    rw [Bool.eq_iff_iff, beq_iff_eq, inS_iff]
  rw [h1]
  obtain ⟨d, hd⟩ : ∃ d, n + d = 6 := ⟨6 - n, by omega⟩
  rw [← hd]
  clear hd h1 hn
  induction d with
  | zero => rfl
  | succ d ih =>
    rw [← Nat.add_assoc, List.range_succ, List.filter_append, ih]
    have : inS s (n + d) = false := by
      unfold inS
      exact Nat.testBit_lt_two_pow (Nat.lt_of_lt_of_le hs (Nat.pow_le_pow_right (by omega) (by omega)))
    simp [this]
theorem watB_wide {L : List Int} {s : Nat} (hs : s < 2 ^ L.length) (h6 : L.length ≤ 6) : watB L s = (wide L s (nodesL s) == 2 ^ L.length - 1) := by
  unfold watB
  rw [metTo_wide, nodes_range hs h6]

/-- Between two rounds: the graph's box; what is met so far. -/
def WaI (n₀ n s : Nat) (S : Value) (L : List Int) (pre : List (Nd n s)) (W : World) : Prop :=
  Boxed W n₀ 34 S ∧ Boxed W (n₀ + 1) 3 (.int .i64 (wide L s (valsN pre) : Nat))
theorem waI_own (n₀ n s : Nat) (S : Value) (L : List Int) : Own (WaI n₀ n s S L) := fun pre X Y row hs hg hr =>
  ⟨boxed_own _ _ (fun _ : Unit => _) () X Y row hs.1 hg hr, boxed_own _ _ (fun _ : Unit => _) () X Y row hs.2 hg hr⟩

set_option maxHeartbeats 4000000 in
theorem isWatching_in (A : Option Addr) (c : Nat) (L : List Int) (hg : IsGraph L) (s : Nat) (hs : s < 2 ^ L.length) (w : World) (h : Seen w A L) (hT : Tab w) :
    CallsIn Fence.wide 6 Tryd.prog 59 #[.slice A L.length c, .int .i64 s] w fun e w' => e = .returned (.bool (watB L s)) ∧ Below w.heap.size w w' := by
  have h1 := hg.1
  have h6 := hg.2.1
  have h2 := hT.lt
  have hW := watB_wide hs h6
  obtain ⟨blk, off, hA0, hbl0, _⟩ := h 0 (by omega)
  subst hA0
  have hp := two_pos L.length
  obtain ⟨Q, hQ⟩ : ∃ Q, Q + 1 = 2 ^ L.length := ⟨2 ^ L.length - 1, by omega⟩
  rw [show 2 ^ L.length - 1 = Q by omega] at hW
  obtain ⟨n, hn⟩ : ∃ n, n = L.length := ⟨_, rfl⟩
  rw [← hn] at h1 h6 hs hQ ⊢
  have HAL := Lib.hid (fun w => all_any (some ⟨blk, off, none⟩) n c Q h6 hQ w)
  have HN := Lib.hid hn
  have H := Lib.hid h
  have HG := Lib.hid hg
  have HT := Lib.hid hT
  have HW := Lib.hid hW
  have HQ := Lib.hid hQ
  have HL2 : Hid (∀ v, v < L.length → ent L v < 2 ^ L.length) := Lib.hid fun v hv => ent_lt (hg.2.2 v hv).1
  clear h hg hn hT hW hQ hp
  refine callsIn_of_wp_marks Tryd.func59 rfl trivial ?_ rfl
  simp only [Tryd.ntmps59, List.size_toArray, List.length_cons, List.length_nil, Nat.reduceAdd, Nat.reduceSub, Array.replicate_succ, Array.replicate_zero, List.push_toArray, List.append_toArray, List.nil_append, List.cons_append]
  gi_wp2_with (refine ⟨trivial, ?_⟩; gi_at_call 66; refine (callsIn_wide.2 (nodesIn_any s _)).mono ?_; rintro e w' ⟨rfl, rfl⟩)
  obtain ⟨W, eW⟩ : ∃ W, W = ((w.alloc (.cells #[.slice (some ⟨blk, off, none⟩) n c] 34)).alloc (.cells #[.int .i64 s] 3)).alloc (.cells #[.int .i64 s] 3) := ⟨_, rfl⟩
  have sW : W.heap.size = w.heap.size + 1 + 1 + 1 := by rw [eW]; simp
  have hBW : Below w.heap.size w W := by rw [eW]; exact (((Below.refl _ w).alloc (Nat.le_refl _) _).alloc (by simp) _).alloc (by simp; omega) _
  have b0 : Boxed W w.heap.size 34 (.slice (some ⟨blk, off, none⟩) n c) := by rw [eW]; exact ((Boxed.new w _ _).alloc _).alloc _
  have b1 : Boxed W (w.heap.size + 1) 3 (.int .i64 (wide L s (valsN ([] : List (Nd n s))) : Nat)) := by
    rw [eW]; have h := Boxed.new (w.alloc (.cells #[.slice (some ⟨blk, off, none⟩) n c] 34)) 3 (.int .i64 s); rw [World.size_alloc] at h; exact h.alloc _
  have b2 : W.cell? ⟨w.heap.size + 1 + 1, 0, none⟩ = some (.int .i64 s) := by
    rw [eW]; have h := Boxed.new ((w.alloc (.cells #[.slice (some ⟨blk, off, none⟩) n c] 34)).alloc (.cells #[.int .i64 s] 3)) 3 (.int .i64 s); rw [World.size_alloc, World.size_alloc] at h; exact h.cell
  rw [← eW]
  clear eW
  obtain ⟨n₀, en⟩ : ∃ n₀, n₀ = w.heap.size := ⟨_, rfl⟩
  rw [← en] at sW hBW b0 b1 b2 h2 hbl0 ⊢
  have hle : n₀ ≤ w.heap.size := by omega
  have hTW : Tab W := HT.out.below hBW (by omega)
  have EN := Lib.hid en
  have SW := Lib.hid sW
  clear en sW
  refine wpIn_rangeFunc_ownF (α := Nd n s) rfl (by omega) (gf := 74) (lb := #[.pointer (some ⟨n₀ + 1 + 1, 0, none⟩)]) rfl trivial (enters_of Tryd.func74 (by kernel_rfl) rfl)
    (nodes_stops _ (n₀ + 1 + 1) n s n₀ (by omega) h6 hs W (by have := SW.out; omega) b2 hTW (by omega) (by have := SW.out; omega)) belowK_t (belowK_b (by have := SW.out; omega)) (Below.refl _ _) (fun _ => rfl)
    (fun pre Z => WaI n₀ n s (.slice (some ⟨blk, off, none⟩) n c) L pre Z ∧ Below n₀ w Z) (fun _ _ _ => False)
    (OwnFrom.and (Own.from (waI_own n₀ n s _ L) _) (ownFrom_below hle (by have := SW.out; omega))) (fun _ _ _ _ _ hs _ _ => hs)
    ⟨⟨b0, b1⟩, hBW⟩
    (fun x => { tmps := #[.slice (some ⟨blk, off, none⟩) n c, .int .i64 s, .pointer (some ⟨n₀, 0, none⟩), undef, .bool false, .pointer (some ⟨n₀ + 1, 0, none⟩), .int .i64 (x.1 : Int), .int .i64 s, .int .i64 s,
      .func (.func 74) #[] #[.pointer (some ⟨n₀ + 1 + 1, 0, none⟩)], .int .i64 (x.1 : Int), undef, undef, undef, undef, undef, undef, undef, undef, undef, undef], defers := [] }) ?assign ?body ?done ?stop
  case assign =>
    intro l x Z K hK
    gi_wp2
    exact hK
  case body =>
    rintro l pre x Z ⟨⟨d0, d1⟩, hB⟩ hlen
    obtain ⟨v, hvn, hvq⟩ := x
    dsimp only at hvn ⊢
    have hvL : v < L.length := by have := HN.out; omega
    obtain ⟨blk1, off1, hA1, hbl1, hc1⟩ := H.out v hvL
    obtain ⟨rfl, rfl⟩ : blk = blk1 ∧ off = off1 := by injection hA1 with e; injection e with e1 e2; exact ⟨e1, e2⟩
    have hin := (HG.out.2.2 v hvL).1
    have hX := ent_int hin
    have hXl := ent_lt hin
    have h64 := two_le (n := L.length) HG.out.2.1
    have hr64 : wide L s (valsN pre) < 2 ^ n := wide_lt hs _ (fun u hu => by
      simp only [valsN, List.mem_map] at hu
      obtain ⟨q, _, rfl⟩ := hu
      have h5 := HL2.out q.1 (by have := q.2.1; have := HN.out; omega)
      rw [← HN.out] at h5
      exact h5)
    have hw2 : wide L s (valsN (pre ++ [(⟨v, hvn, hvq⟩ : Nd n s)])) = wide L s (valsN pre) ||| ent L v := by rw [valsN_snoc, wide_snoc]
    obtain ⟨X, eX⟩ : ∃ X, X = ent L v := ⟨_, rfl⟩
    obtain ⟨r, er⟩ : ∃ r, r = wide L s (valsN pre) := ⟨_, rfl⟩
    rw [← eX] at hX hXl hw2
    rw [← er] at hr64 hw2 d1
    rw [hX] at hc1
    have hn64 := two_le h6
    have f1 := i64_or_nat r X (by omega) (by omega)
    obtain ⟨r2, er2⟩ : ∃ r2, r2 = r ||| X := ⟨_, rfl⟩
    rw [← er2] at f1 hw2
    have hcv : Z.cell? ⟨blk, off + v, none⟩ = some (.int .i64 X) := (hB.cell (p := ⟨blk, off + v, none⟩) hbl0).trans hc1
    have z0 := d0.cell
    have z1 := d1.cell
    have hi1 : (0 : Int) ≤ (v : Int) ∧ (v : Int) < (n : Int) := by omega
    obtain ⟨w2, ew2⟩ : ∃ w2, w2 = Z.drew := ⟨_, rfl⟩
    have y1 : w2.cell? ⟨n₀ + 1, 0, none⟩ = some (.int .i64 r) := by rw [ew2]; exact d1.cell
    have y2 : w2.frozen? ⟨n₀ + 1, 0, none⟩ = false := by rw [ew2]; exact d1.frozen
    have EW2 := Lib.hid ew2
    have HW2 := Lib.hid hw2
    have D0 := Lib.hid d0
    have D1 := Lib.hid d1
    clear ew2 hw2 d0 d1 er2 er eX hX hXl h64 hr64 hin hc1 hA1 hbl1 hn64
    gi_wp2
    refine wpIn_tail_round 6 (by kernel_rfl) (by kernel_rfl) (by kernel_rfl) ?_
    simp only [List.take_succ_cons, List.take_zero, List.drop_succ_cons, List.drop_zero]
    repeat still_step
    refine wpStill_nil ?_
    rw [← EW2.out]
    gi_wp2
    rw [EW2.out]
    have gz : Z.grownBy (Z.drew.setCell ⟨n₀ + 1, 0, none⟩ (.int .i64 r2)) (some (n₀ + 1)) := grown_set (grown_drew (World.grownBy.refl Z (some (n₀ + 1)))) 0 _
    refine ⟨(KeepsOthers.drew _).trans (KeepsOthers.setCell _ _ _), ((Below.refl n₀ Z).drew).setCell (p := ⟨n₀ + 1, 0, none⟩) (by show n₀ ≤ n₀ + 1; omega) _, ⟨D0.out.kept gz (fun e => by injection e; omega), ?_⟩, hB.drew.setCell (p := ⟨n₀ + 1, 0, none⟩) (by show n₀ ≤ n₀ + 1; omega) _⟩
    rw [HW2.out]
    exact (show Boxed Z.drew (n₀ + 1) 3 (.int .i64 r) from D1.out).set _
  case done =>
    rintro D xs Z hD hS ⟨⟨d0, d1⟩, hB⟩ hK
    rw [hS] at d1
    have hW2 := HW.out
    obtain ⟨r, er⟩ : ∃ r, r = wide L s (nodesL s) := ⟨_, rfl⟩
    rw [← er] at d1 hW2
    have z0 := d0.cell
    have z1 := d1.cell
    have HK := Lib.hid hK
    have HB := Lib.hid hB
    have HR := Lib.hid hW2
    clear er d0 d1 hS hK hB hW2
    gi_wp2
    refine wpIn_region_quiet_lit rfl (by kernel_rfl) (by kernel_rfl) ?_
    quiet_step_in (fail)
    quiet_step_in (fail)
    refine wpQuietIn_step (fun _ _ _ _ => trivial) (fun K hK => ?_)
    go_simp
    apply Exists.intro
    refine ⟨fun _ => ?_, hK _ ?_⟩
    · first
        | exact CallsIn.quiet_of_same ((callsIn_wide.2 (HAL.out _)).mono fun e w' ⟨he, hw⟩ => ⟨he, hw.symm⟩)
        | exact ⟨trivial, CallsIn.quiet_of_same ((callsIn_wide.2 (HAL.out _)).mono fun e w' ⟨he, hw⟩ => ⟨he, hw.symm⟩)⟩
        | exact ⟨by omega, CallsIn.quiet_of_same ((callsIn_wide.2 (HAL.out _)).mono fun e w' ⟨he, hw⟩ => ⟨he, hw.symm⟩)⟩
    clear hK K
    quiet_step_in (fail)
    quiet_step_in (fail)
    refine wpQuietIn_nil ?_
    rintro _ ⟨nq, rfl⟩
    have hK2 : (Z.drewN nq).heap[D]? = some (.deferred (some [])) := HK.out
    gi_wp2
    refine ⟨by simp, .inl ⟨_, _, rfl, run_takeDeferred hK2, ?_⟩⟩
    refine ⟨_, results_tmp rfl _ _ _, ?_⟩
    refine ⟨?_, ?_⟩
    · rw [HR.out]
      show Ending.returned (.bool ((r : Int) == (Q : Int))) = Ending.returned (.bool (r == Q))
      rw [show ((r : Int) == (Q : Int)) = (r == Q) from by rw [Bool.eq_iff_iff, beq_iff_eq, beq_iff_eq]; omega]
    · rw [← EN.out]
      exact (below_drewN HB.out nq).trans (belowK_b (w := w) hle _ D _ _ (by have := SW.out; have := EN.out; omega) hK2 rfl rfl)
  case stop =>
    rintro D cd pre Z _ _ h _
    exact h.elim
end Go.Proofs.YtfhaeocgbihddaaDoor

/- Bits of sets; words turned by words. Plain mathematics, no condition. -/


namespace Go.Proofs.YtfhaeocgbihddaaDoor
open Go Go.RowKit
set_option linter.unusedVariables false
set_option maxRecDepth 100000

theorem less_tb {a b : Nat} (ha : a < 64) (hb : b ≤ 64) (j : Nat) : (less a b).testBit j = (a.testBit j && !b.testBit j) := by
  unfold less
  have e : 18446744073709551615 - b = 2 ^ 64 - (b + 1) := by
    have h64 : (2 : Nat) ^ 64 = 18446744073709551616 := by decide
    omega
  rw [Nat.testBit_and, e, Nat.testBit_two_pow_sub_succ (Nat.lt_of_le_of_lt hb (by decide))]
  by_cases h : j < 64
  · simp [h]
  · have h1 : a.testBit j = false := Nat.testBit_lt_two_pow (Nat.lt_of_lt_of_le ha (Nat.le_trans (show 64 ≤ 2 ^ 64 by decide) (Nat.pow_le_pow_right (by omega) (by omega))))
    simp [h1]
theorem bt_bit (L : List Int) (i j : Nat) : bt L i j = 1 ↔ (ent L i).testBit j = true := by
  unfold bt
  rw [Nat.testBit_eq_decide_div_mod_eq, decide_eq_true_eq]
theorem less_bits {a b : Nat} (ha : a < 1048576) (hb : b < 1048576) (j : Nat) : (less a b).testBit j = (a.testBit j && !b.testBit j) := by
  unfold less
  have e : 18446744073709551615 - b = 2 ^ 64 - (b + 1) := by
    have h64 : (2 : Nat) ^ 64 = 18446744073709551616 := by decide
    omega
  rw [Nat.testBit_and, e, Nat.testBit_two_pow_sub_succ (Nat.lt_trans hb (by decide))]
  by_cases h : j < 64
  · simp [h]
  · have h1 : a.testBit j = false := Nat.testBit_lt_two_pow (Nat.lt_of_lt_of_le ha (Nat.le_trans (show 1048576 ≤ 2 ^ 64 by decide) (Nat.pow_le_pow_right (by omega) (by omega))))
    simp [h1]
theorem mod_bit (x k : Nat) : x / 2 ^ k % 2 = 1 ↔ x.testBit k = true := by rw [Nat.testBit_eq_decide_div_mod_eq, decide_eq_true_eq]
theorem bt_tb (L : List Int) (i j : Nat) : bt L i j = 1 ↔ (ent L i).testBit j = true := by unfold bt; exact mod_bit _ _
theorem i64_xor_nat (a b : Nat) (ha : a < 9223372036854775808) (hb : b < 9223372036854775808) : bits .xor .i64 (a : Int) (b : Int) = ((a ^^^ b : Nat) : Int) :=
  unword (BitVec.ofInt 64 (a : Int) ^^^ BitVec.ofInt 64 (b : Int)) _ (by rw [BitVec.toNat_xor, word a ha, word b hb]) (Nat.xor_lt_two_pow ha hb)
theorem xor_pow (x k : Nat) (h : k ≤ 40) (hx : x < 9223372036854775808) : bits .xor .i64 (x : Int) (wrap64 ((2 : Int) ^ k)) = ((x ^^^ 2 ^ k : Nat) : Int) := by
  have h1 := pow_le k 40 h
  rw [wrap_pow k h, i64_xor_nat x _ hx (by omega)]
end Go.Proofs.YtfhaeocgbihddaaDoor

/- Names tried one behind the other, leaving off where a beginning does not fit; what a try keeps of the world. -/





namespace Go.Proofs.YtfhaeocgbihddaaDoor
open Go Go.RowKit
set_option linter.unusedVariables false

/-- All names that begin with P, over the nodes of s, that come to the list. -/
def dfs (fit : List (List Nat) → List Nat → Bool) : Nat → List (List Nat) → List Nat → Nat → List (List Nat)
  | 0, acc, P, _ => acc ++ [P]
  | k + 1, acc, P, s => (nodesL s).foldl (fun acc v => if fit acc (P ++ [v]) = true then dfs fit k acc (P ++ [v]) (less s (2 ^ v)) else acc) acc
def stepF (fit : List (List Nat) → List Nat → Bool) (k : Nat) (P : List Nat) (s : Nat) (acc : List (List Nat)) (v : Nat) : List (List Nat) :=
  if fit acc (P ++ [v]) = true then dfs fit k acc (P ++ [v]) (less s (2 ^ v)) else acc
def runF (fit : List (List Nat) → List Nat → Bool) (k : Nat) (P : List Nat) (s : Nat) (acc : List (List Nat)) (vs : List Nat) : List (List Nat) := vs.foldl (stepF fit k P s) acc
theorem dfs_zero (fit : List (List Nat) → List Nat → Bool) (acc : List (List Nat)) (P : List Nat) (s : Nat) : dfs fit 0 acc P s = acc ++ [P] := rfl
theorem dfs_succ (fit : List (List Nat) → List Nat → Bool) (k : Nat) (acc : List (List Nat)) (P : List Nat) (s : Nat) : dfs fit (k + 1) acc P s = runF fit k P s acc (nodesL s) := rfl
theorem runF_nil (fit : List (List Nat) → List Nat → Bool) (k : Nat) (P : List Nat) (s : Nat) (acc : List (List Nat)) : runF fit k P s acc [] = acc := rfl
theorem runF_snoc (fit : List (List Nat) → List Nat → Bool) (k : Nat) (P : List Nat) (s : Nat) (acc : List (List Nat)) (vs : List Nat) (v : Nat) : runF fit k P s acc (vs ++ [v]) = stepF fit k P s (runF fit k P s acc vs) v := by simp [runF]
theorem run_pre {f : List (List Nat) → Nat → List (List Nat)} (hf : ∀ acc v, acc <+: f acc v) (vs : List Nat) (acc : List (List Nat)) : acc <+: vs.foldl f acc := by
  induction vs generalizing acc with
  | nil => exact List.prefix_refl _
  | cons v vs ih => exact (hf acc v).trans (ih _)
theorem dfs_pre (fit : List (List Nat) → List Nat → Bool) (k : Nat) : ∀ (acc : List (List Nat)) (P : List Nat) (s : Nat), acc <+: dfs fit k acc P s := by
  induction k with
  | zero => intro acc P s; exact List.prefix_append _ _
  | succ k ih =>
    intro acc P s
    rw [dfs_succ]
    refine run_pre (fun acc v => ?_) _ _
    unfold stepF
    split
    · exact ih _ _ _
    · exact List.prefix_refl _
theorem stepF_pre (fit : List (List Nat) → List Nat → Bool) (k : Nat) (P : List Nat) (s : Nat) (acc : List (List Nat)) (v : Nat) : acc <+: stepF fit k P s acc v := by
  unfold stepF
  split
  · exact dfs_pre _ _ _ _ _
  · exact List.prefix_refl _
theorem runF_mono (fit : List (List Nat) → List Nat → Bool) (k : Nat) (P : List Nat) (s : Nat) (acc : List (List Nat)) {vs us : List Nat} (h : vs <+: us) : runF fit k P s acc vs <+: runF fit k P s acc us := by
  obtain ⟨t, rfl⟩ := h
  unfold runF
  rw [List.foldl_append]
  exact run_pre (fun acc v => stepF_pre _ _ _ _ _ _) _ _

/-! ### sets -/
theorem less_bit : ∀ (s : Fin 64) (v : Fin 6), less s.val (2 ^ v.val) < 64 ∧ (s.val / 2 ^ v.val % 2 = 1 → nodesL (less s.val (2 ^ v.val)) = (nodesL s.val).filter (fun x => x != v.val) ∧ (nodesL (less s.val (2 ^ v.val))).length + 1 = (nodesL s.val).length) := by decide +kernel
theorem nodes_none : ∀ s : Fin 64, (nodesL s.val).length = 0 → s.val = 0 := by decide +kernel
theorem less_lt (s v m : Nat) (hs : s < 2 ^ m) : less s (2 ^ v) < 2 ^ m := Nat.lt_of_le_of_lt (less_le s (2 ^ v)) hs

/-! ### what is kept -/
/-- Every block from B on lies as it lay. -/
def Rest0 (B : Nat) (X Y : World) : Prop := X.heap.size ≤ Y.heap.size ∧ ∀ (k : Nat) (o : Obj), B ≤ k → X.heap[k]? = some o → Y.heap[k]? = some o
/-- The same, but for the list in the making and its box. -/
def RestP (B : Nat) (X Y : World) : Prop := X.heap.size ≤ Y.heap.size ∧ ∀ (k : Nat) (o : Obj), B ≤ k → k ≠ B + 1 → k ≠ B + 2 → X.heap[k]? = some o → Y.heap[k]? = some o
theorem Rest0.p {B : Nat} {X Y : World} (h : Rest0 B X Y) : RestP B X Y := ⟨h.1, fun k o h1 _ _ h4 => h.2 k o h1 h4⟩
theorem RestP.refl (B : Nat) (X : World) : RestP B X X := ⟨Nat.le_refl _, fun _ _ _ _ _ h => h⟩
theorem RestP.trans {B : Nat} {X Y Z : World} (h : RestP B X Y) (k : RestP B Y Z) : RestP B X Z := ⟨Nat.le_trans h.1 k.1, fun i o h1 h2 h3 h4 => k.2 i o h1 h2 h3 (h.2 i o h1 h2 h3 h4)⟩
theorem Rest0.trans {B : Nat} {X Y Z : World} (h : Rest0 B X Y) (k : Rest0 B Y Z) : Rest0 B X Z := ⟨Nat.le_trans h.1 k.1, fun i o h1 h4 => k.2 i o h1 (h.2 i o h1 h4)⟩
theorem restP_of_grown {B : Nat} {X Y : World} {row : Option Nat} (h : X.grownBy Y row) (hr : ∀ r, row = some r → r = B + 1 ∨ r = B + 2 ∨ X.heap.size ≤ r ∨ r < B) : RestP B X Y :=
  ⟨h.size, fun k o h1 h2 h3 h4 => (h.block k (Array.getElem?_eq_some_iff.1 h4).1 (fun e => by
    have h5 := (Array.getElem?_eq_some_iff.1 h4).1
    rcases hr k e.symm with h | h | h | h <;> omega)).trans h4⟩
theorem restP_alloc (B : Nat) (X : World) (o : Obj) : RestP B X (X.alloc o) := ⟨by simp, fun k o' _ _ _ h => (Below.heap_alloc _ _ _ (Array.getElem?_eq_some_iff.1 h).1).trans h⟩
theorem restP_below {B : Nat} {X Y : World} (h : Below X.heap.size X Y) : RestP B X Y := ⟨h.size, fun k o _ _ _ h4 => (h.block k (Array.getElem?_eq_some_iff.1 h4).1).trans h4⟩
/-- Between a world and one that came out of it, but for blocks that came later. -/
theorem restP_later {B m : Nat} {X Y Z : World} (h : RestP B X Y) (hm : X.heap.size ≤ m) (hg : ∀ (k : Nat) (o : Obj), k < m → k ≠ B + 1 → k ≠ B + 2 → Y.heap[k]? = some o → Z.heap[k]? = some o) (hs : Y.heap.size ≤ Z.heap.size) : RestP B X Z :=
  ⟨Nat.le_trans h.1 hs, fun k o h1 h2 h3 h4 => hg k o (Nat.lt_of_lt_of_le (Array.getElem?_eq_some_iff.1 h4).1 hm) h2 h3 (h.2 k o h1 h2 h3 h4)⟩
theorem boxed_restP {B k : Nat} {t : TypeId} {v : Value} {X Y : World} (h : Boxed X k t v) (hr : RestP B X Y) (h1 : B ≤ k) (h2 : k ≠ B + 1) (h3 : k ≠ B + 2) : Boxed Y k t v := hr.2 k _ h1 h2 h3 h
theorem keepsFrom_restP {B b : Nat} {X Y : World} (h : RestP B X Y) (hb : B + 3 ≤ b) : KeepsFrom b X Y := ⟨h.1, fun k o h1 h2 _ => h.2 k o (by omega) (by omega) (by omega) h2⟩

/-- An object that a try never turns: cells that are no truth values. -/
def hardO : Obj → Bool
  | .cells _ t _ => decide (t ≠ 4)
  | _ => false
theorem soft_of_not_cells {o : Obj} (h : o.isCells = false) : hardO o = false := by cases o <;> first | rfl | (simp [Obj.isCells] at h)
theorem hard_boxed {X : World} {k : Nat} {t : TypeId} {v : Value} (h : Boxed X k t v) (ht : t ≠ 4) : ∃ o : Obj, X.heap[k]? = some o ∧ hardO o = true := ⟨_, h, decide_eq_true ht⟩
theorem soft_bool {X : World} {k : Nat} {v : Value} (h : Boxed X k 4 v) : ∃ o : Obj, X.heap[k]? = some o ∧ hardO o = false := ⟨_, h, rfl⟩
/-- What lay ahead of B stays; of the rest, but for the list in the making and its box, all cells that are no truth values. -/
def Soft (B : Nat) (X Y : World) : Prop := X.heap.size ≤ Y.heap.size ∧ ∀ (k : Nat) (o : Obj), X.heap[k]? = some o → (k < B ∨ (k ≠ B + 1 ∧ k ≠ B + 2 ∧ hardO o = true)) → Y.heap[k]? = some o
theorem Soft.trans {B : Nat} {X Y Z : World} (h : Soft B X Y) (k : Soft B Y Z) : Soft B X Z := ⟨Nat.le_trans h.1 k.1, fun i o hi hc => k.2 i o (h.2 i o hi hc) hc⟩
theorem Soft.drew {B : Nat} (X : World) : Soft B X X.drew := ⟨Nat.le_refl _, fun _ _ h _ => h⟩
theorem soft_rest {B : Nat} {X Y : World} (h : RestP B X Y) (hb : Below B X Y) : Soft B X Y := ⟨h.1, fun k o hk hc => by
  by_cases h1 : k < B
  · exact (hb.block k h1).trans hk
  · rcases hc with hc | ⟨h2, h3, _⟩
    · exact absurd hc h1
    · exact h.2 k o (by omega) h2 h3 hk⟩
theorem soft_new {B : Nat} {X Y : World} (h : Below X.heap.size X Y) : Soft B X Y := ⟨h.size, fun k o hk _ => (h.block k (Array.getElem?_eq_some_iff.1 hk).1).trans hk⟩
theorem soft_grown {B : Nat} {X Y : World} {row : Option Nat} (h : X.grownBy Y row) (hr : ∀ r, row = some r → B ≤ r ∧ (r = B + 1 ∨ r = B + 2 ∨ ∃ o : Obj, X.heap[r]? = some o ∧ hardO o = false)) : Soft B X Y := ⟨h.size, fun k o hk hc => by
  refine (h.block k (Array.getElem?_eq_some_iff.1 hk).1 (fun e => ?_)).trans hk
  obtain ⟨h1, h2⟩ := hr k e.symm
  rcases hc with hc | ⟨c1, c2, c3⟩
  · omega
  · rcases h2 with h2 | h2 | ⟨o', ho, hh⟩
    · exact c1 h2
    · exact c2 h2
    · rw [hk] at ho; cases ho; rw [c3] at hh; cases hh⟩
/-- The same as a caller of a loop over names sees it: the loop's own two objects lie between. -/
def SoftN (m : Nat) (X Y : World) : Prop := X.heap.size ≤ Y.heap.size ∧ ∀ (k : Nat) (o : Obj), X.heap[k]? = some o → (k < m ∨ (k ≠ m + 3 ∧ k ≠ m + 4 ∧ hardO o = true)) → Y.heap[k]? = some o
theorem softN_of {m : Nat} {X Y : World} (h : Soft (m + 2) X Y) : SoftN m X Y := ⟨h.1, fun k o hk hc => h.2 k o hk (by
  rcases hc with hc | ⟨h1, h2, h3⟩
  · exact .inl (by omega)
  · exact .inr ⟨by omega, by omega, h3⟩)⟩
theorem softN_new {m : Nat} {X Y : World} (h : Below X.heap.size X Y) : SoftN m X Y := ⟨h.size, fun k o hk _ => (h.block k (Array.getElem?_eq_some_iff.1 hk).1).trans hk⟩
theorem softN_put {m r : Nat} {X Y : World} (h : X.grownBy Y (some r)) (hm : m ≤ r) (hr : ∃ o : Obj, X.heap[r]? = some o ∧ hardO o = false) : SoftN m X Y := ⟨h.size, fun k o hk hc => by
  refine (h.block k (Array.getElem?_eq_some_iff.1 hk).1 (fun e => ?_)).trans hk
  injection e with e
  subst e
  obtain ⟨o', ho, hh⟩ := hr
  rcases hc with hc | ⟨_, _, c3⟩
  · omega
  · rw [hk] at ho; cases ho; rw [c3] at hh; cases hh⟩
theorem SoftN.box {m k : Nat} {t : TypeId} {v : Value} {X Y : World} (h : SoftN m X Y) (hb : Boxed X k t v) (hk : k < m ∨ (k ≠ m + 3 ∧ k ≠ m + 4 ∧ t ≠ 4)) : Boxed Y k t v := h.2 k _ hb (by
  rcases hk with hk | ⟨h1, h2, h3⟩
  · exact .inl hk
  · exact .inr ⟨h1, h2, decide_eq_true h3⟩)
theorem SoftN.row {m B : Nat} {v : Value} {xs : List Int} {X Y : World} (h : SoftN m X Y) (hr : Row X B v xs) (hv : ∀ g, v.ownBlock = some g → g < m ∨ (g ≠ m + 3 ∧ g ≠ m + 4)) : Row Y B v xs := by
  obtain ⟨h0, h1⟩ := hr
  refine ⟨h0, ?_⟩
  rcases h1 with h1 | ⟨g, cap, cur, a1, a2, a3, a4⟩
  · exact .inl h1
  · refine .inr ⟨g, cap, cur, a1, a2, h.2 g _ a3 ?_, a4⟩
    rcases hv g (by rw [a1]; rfl) with h2 | ⟨h2, h3⟩
    · exact .inl h2
    · exact .inr ⟨h2, h3, rfl⟩

/-- The last number of a list in the making goes. -/
theorem cut_row {W : World} {B g n : Nat} {xs : List Int} {y : Int} (h : Row W B (.slice (some ⟨g, 0, none⟩) (xs.length + 1) n) (xs ++ [y])) : Row W B (.slice (some ⟨g, 0, none⟩) xs.length n) xs := by
  obtain ⟨h1, h2⟩ := h
  rcases h2 with ⟨h3, _⟩ | ⟨g', cap, cur, h3, h4, h5, h6, h7, h8, h9⟩
  · cases h3
  · injection h3 with e1 e2 e3
    injection e1 with e1
    injection e1 with e1
    subst e1
    subst e3
    refine ⟨by simp, .inr ⟨g, n, cur, rfl, h4, h5, ?_, h7, h8, ?_⟩⟩
    · simp at h6; omega
    · have h10 := congrArg (List.take xs.length) h9
      rw [List.take_take] at h10
      simp at h10
      simpa using h10
/-- All names that fit, in order. -/
def allNames (fit : List (List Nat) → List Nat → Bool) (n : Nat) : List (List Nat) := dfs fit n [] [] (2 ^ n - 1)
end Go.Proofs.YtfhaeocgbihddaaDoor

/- A graph with its nodes named: the model's way and the program's make one list. Plain mathematics, no condition. -/

namespace Go.Proofs.YtfhaeocgbihddaaDoor
open Go Go.RowKit

def orAt (g : List Nat) (a x : Nat) : List Nat := g.set a (g[a]?.getD 0 ||| x)
theorem orAt_length (g : List Nat) (a x : Nat) : (orAt g a x).length = g.length := by simp [orAt]
theorem orAt_bit (g : List Nat) (a x i j : Nat) (ha : a < g.length) : ((orAt g a x)[i]?.getD 0).testBit j = ((g[i]?.getD 0).testBit j || (decide (i = a) && x.testBit j)) := by
  unfold orAt
  by_cases h : i = a
  · subst h
    rw [List.getElem?_set_self ha]
    simp
  · rw [List.getElem?_set_ne (fun e => h e.symm)]
    simp [h]
theorem lnk_or (g : List Nat) (a b bit : Nat) : lnk g a b bit = orAt (orAt g a (bit * 2 ^ b)) b (bit * 2 ^ a) := rfl
theorem bit_test (bit b j : Nat) (h : bit ≤ 1) : (bit * 2 ^ b).testBit j = (decide (bit = 1) && decide (j = b)) := by
  by_cases h1 : bit = 1
  · subst h1
    rw [Nat.one_mul, Nat.testBit_two_pow]
    simp [eq_comm]
  · have h0 : bit = 0 := by omega
    subst h0
    simp

/-- The program's way: a link for each edge. -/
def lrun (n : Nat) (p : Nat → Nat) (es : List (Nat × Nat)) : List Nat := es.foldl (fun g e => lnk g (p e.1) (p e.2) 1) (List.replicate n 0)
theorem lrun_snoc (n : Nat) (p : Nat → Nat) (es : List (Nat × Nat)) (e : Nat × Nat) : lrun n p (es ++ [e]) = lnk (lrun n p es) (p e.1) (p e.2) 1 := by simp [lrun]
theorem lrun_length (n : Nat) (p : Nat → Nat) (es : List (Nat × Nat)) : (lrun n p es).length = n := by
  induction es using snoc_ind with
  | h0 => simp [lrun]
  | h1 l x ih => rw [lrun_snoc, lnk_length, ih]
theorem lrun_bit (n : Nat) (p : Nat → Nat) (hp : ∀ v, v < n → p v < n) (es : List (Nat × Nat)) (he : ∀ e ∈ es, e.1 < n ∧ e.2 < n) (i j : Nat) :
    ((lrun n p es)[i]?.getD 0).testBit j = true ↔ ∃ e ∈ es, (i = p e.1 ∧ j = p e.2) ∨ (i = p e.2 ∧ j = p e.1) := by
  induction es using snoc_ind with
  | h0 =>
    have h : ((lrun n p [])[i]?.getD 0) = 0 := by unfold lrun; by_cases h : i < n <;> simp [h]
    rw [h]; simp
  | h1 l x ih =>
    have hx := he x (by simp)
    have h1 := hp _ hx.1
    have h2 := hp _ hx.2
    rw [lrun_snoc, lnk_or, orAt_bit _ _ _ _ _ (by rw [orAt_length, lrun_length]; exact h2), orAt_bit _ _ _ _ _ (by rw [lrun_length]; exact h1), bit_test _ _ _ (Nat.le_refl 1), bit_test _ _ _ (Nat.le_refl 1)]
    simp only [Bool.or_eq_true, Bool.and_eq_true, decide_eq_true_eq, ih (fun e h => he e (by simp [h])), List.mem_append, List.mem_singleton]
    constructor
    · rintro ((⟨e, h, h'⟩ | ⟨a, _, b⟩) | ⟨a, _, b⟩)
      · exact ⟨e, .inl h, h'⟩
      · exact ⟨x, .inr rfl, .inl ⟨a, b⟩⟩
      · exact ⟨x, .inr rfl, .inr ⟨a, b⟩⟩
    · rintro ⟨e, (h | rfl), h'⟩
      · exact .inl (.inl ⟨e, h, h'⟩)
      · rcases h' with ⟨a, b⟩ | ⟨a, b⟩
        · exact .inl (.inr ⟨a, trivial, b⟩)
        · exact .inr ⟨a, trivial, b⟩

/-- The model's way: each place of each row. -/
def mrun (L : List Int) (n : Nat) (p : Nat → Nat) (vs : List (Nat × Nat)) : List Nat := vs.foldl (fun g e => orAt g (p e.1) (bt L e.1 e.2 * 2 ^ p e.2)) (List.replicate n 0)
theorem mrun_snoc (L : List Int) (n : Nat) (p : Nat → Nat) (es : List (Nat × Nat)) (e : Nat × Nat) : mrun L n p (es ++ [e]) = orAt (mrun L n p es) (p e.1) (bt L e.1 e.2 * 2 ^ p e.2) := by simp [mrun]
theorem mrun_length (L : List Int) (n : Nat) (p : Nat → Nat) (es : List (Nat × Nat)) : (mrun L n p es).length = n := by
  induction es using snoc_ind with
  | h0 => simp [mrun]
  | h1 l x ih => rw [mrun_snoc, orAt_length, ih]
theorem mrun_bit (L : List Int) (n : Nat) (p : Nat → Nat) (hp : ∀ v, v < n → p v < n) (es : List (Nat × Nat)) (he : ∀ e ∈ es, e.1 < n) (i j : Nat) :
    ((mrun L n p es)[i]?.getD 0).testBit j = true ↔ ∃ e ∈ es, bt L e.1 e.2 = 1 ∧ i = p e.1 ∧ j = p e.2 := by
  induction es using snoc_ind with
  | h0 =>
    have h : ((mrun L n p [])[i]?.getD 0) = 0 := by unfold mrun; by_cases h : i < n <;> simp [h]
    rw [h]; simp
  | h1 l x ih =>
    have h1 := hp _ (he x (by simp))
    rw [mrun_snoc, orAt_bit _ _ _ _ _ (by rw [mrun_length]; exact h1), bit_test _ _ _ (bt_le _ _ _)]
    simp only [Bool.or_eq_true, Bool.and_eq_true, decide_eq_true_eq, ih (fun e h => he e (by simp [h])), List.mem_append, List.mem_singleton]
    constructor
    · rintro (⟨e, h, h'⟩ | ⟨a, b, c⟩)
      · exact ⟨e, .inl h, h'⟩
      · exact ⟨x, .inr rfl, b, a, c⟩
    · rintro ⟨e, (h | rfl), h'⟩
      · exact .inl ⟨e, h, h'⟩
      · exact .inr ⟨h'.2.1, h'.1, h'.2.2⟩

theorem list_bits {a b : List Nat} (hl : a.length = b.length) (h : ∀ i j : Nat, (a[i]?.getD 0).testBit j = true ↔ (b[i]?.getD 0).testBit j = true) : a = b := by
  refine List.ext_getElem hl fun i h1 h2 => ?_
  have h3 : (a[i]?.getD 0) = (b[i]?.getD 0) := Nat.eq_of_testBit_eq fun j => by
    have h4 := h i j
    cases e1 : (a[i]?.getD 0).testBit j <;> cases e2 : (b[i]?.getD 0).testBit j <;> simp_all
  simpa [h1, h2] using h3

theorem rows_all (n a b : Nat) : (a, b) ∈ rows n ↔ a < b ∧ b < n := by
  constructor
  · exact fun h => rows_mem n (a, b) h
  · rintro ⟨h1, h2⟩
    unfold rows
    rw [List.mem_flatMap]
    exact ⟨b, by simpa using h2, by simpa using h1⟩
/-- **Both make one list**, where the graph is one, and each place has been met. -/
theorem named_eq (L : List Int) (hg : IsGraph L) (p : Nat → Nat) (hp : ∀ v, v < L.length → p v < L.length) (vs : List (Nat × Nat)) (hv : ∀ a b, (a, b) ∈ vs ↔ a < L.length ∧ b < L.length) :
    mrun L L.length p vs = lrun L.length p (edgesIn L (rows L.length)) := by
  have sym : ∀ a b, a < L.length → b < L.length → bt L a b = bt L b a := fun a b ha hb => by
    rcases Nat.lt_trichotomy a b with h | h | h
    · exact ((hg.2.2 b hb).2.2 a h).symm
    · rw [h]
    · exact (hg.2.2 a ha).2.2 b h
  refine list_bits (by rw [mrun_length, lrun_length]) fun i j => ?_
  rw [mrun_bit L _ p hp vs (fun e he => ((hv e.1 e.2).1 he).1), lrun_bit _ p hp]
  · constructor
    · rintro ⟨⟨a, b⟩, he, hb, hi, hj⟩
      obtain ⟨ha, hb'⟩ := (hv a b).1 he
      dsimp only at hb hi hj
      rcases Nat.lt_trichotomy a b with h | h | h
      · exact ⟨(a, b), by unfold edgesIn; rw [List.mem_filter]; exact ⟨(rows_all _ _ _).2 ⟨h, hb'⟩, by simpa using hb⟩, .inl ⟨hi, hj⟩⟩
      · subst h
        have := (hg.2.2 a ha).2.1
        omega
      · exact ⟨(b, a), by unfold edgesIn; rw [List.mem_filter]; exact ⟨(rows_all _ _ _).2 ⟨h, ha⟩, by simpa using (sym b a hb' ha).trans hb⟩, .inr ⟨hi, hj⟩⟩
    · rintro ⟨⟨a, b⟩, he, h⟩
      unfold edgesIn at he
      rw [List.mem_filter] at he
      obtain ⟨he, hb⟩ := he
      obtain ⟨h1, h2⟩ := (rows_all _ _ _).1 he
      have hb1 : bt L a b = 1 := by simpa using hb
      rcases h with ⟨hi, hj⟩ | ⟨hi, hj⟩
      · exact ⟨(a, b), (hv _ _).2 ⟨by omega, h2⟩, hb1, hi, hj⟩
      · exact ⟨(b, a), (hv _ _).2 ⟨h2, by omega⟩, (sym b a h2 (by omega)).trans hb1, hi, hj⟩
  · intro e he
    unfold edgesIn at he
    rw [List.mem_filter] at he
    have := rows_mem _ _ he.1
    omega
end Go.Proofs.YtfhaeocgbihddaaDoor

/- Names of nodes: each of n numbers once. Plain mathematics, no condition. -/

namespace Go.Proofs.YtfhaeocgbihddaaDoor
open Go Go.RowKit

theorem nodup_len {P Q : List Nat} (h : P.Nodup) (hs : ∀ x ∈ P, x ∈ Q) : P.length ≤ Q.length := by
  induction P generalizing Q with
  | nil => simp
  | cons x P ih =>
    obtain ⟨hx, hP⟩ := List.nodup_cons.1 h
    have hq := hs x (by simp)
    have h1 := ih hP (Q := Q.erase x) (fun y hy => (List.mem_erase_of_ne (fun (e : y = x) => hx (e ▸ hy))).2 (hs y (by simp [hy])))
    have h2 := List.length_erase_of_mem hq
    have h3 : 0 < Q.length := List.length_pos_of_mem hq
    rw [List.length_cons]
    omega

theorem dup_of_not {P : List Nat} (h : ¬ P.Nodup) : ∃ x, x ∈ P ∧ ∀ y ∈ P, y ∈ P.erase x := by
  induction P with
  | nil => simp at h
  | cons x P ih =>
    by_cases hx : x ∈ P
    · refine ⟨x, by simp, fun y hy => ?_⟩
      rw [List.erase_cons_head]
      rcases List.mem_cons.1 hy with rfl | h'
      · exact hx
      · exact h'
    · have hP : ¬ P.Nodup := fun hn => h (List.nodup_cons.2 ⟨hx, hn⟩)
      obtain ⟨z, hz, hall⟩ := ih hP
      have hxz : x ≠ z := fun e => hx (e ▸ hz)
      refine ⟨z, by simp [hz], fun y hy => ?_⟩
      rw [List.erase_cons_tail (by simpa using hxz)]
      rcases List.mem_cons.1 hy with rfl | h'
      · simp
      · simp [hall y h']

/-- The set of the numbers that have come. -/
def seenOf (P : List Nat) : Nat := P.foldl (fun s x => s ||| 2 ^ x) 0
theorem seenOf_snoc (P : List Nat) (x : Nat) : seenOf (P ++ [x]) = seenOf P ||| 2 ^ x := by simp [seenOf]
theorem seenOf_bit (P : List Nat) (j : Nat) : (seenOf P).testBit j = true ↔ j ∈ P := by
  induction P using snoc_ind with
  | h0 => simp [seenOf]
  | h1 l x ih => rw [seenOf_snoc, Nat.testBit_or, Nat.testBit_two_pow, Bool.or_eq_true, ih, decide_eq_true_eq, List.mem_append, List.mem_singleton]; exact or_congr Iff.rfl ⟨Eq.symm, Eq.symm⟩
theorem seenOf_lt (P : List Nat) (n : Nat) (h : ∀ x ∈ P, x < n) : seenOf P < 2 ^ n := by
  induction P using snoc_ind with
  | h0 => exact Nat.two_pow_pos n
  | h1 l x ih =>
    rw [seenOf_snoc]
    exact Nat.or_lt_two_pow (ih fun y hy => h y (by simp [hy])) (Nat.pow_lt_pow_right (by omega) (h x (by simp)))
theorem seenOf_full (P : List Nat) (n : Nat) (h : ∀ x ∈ P, x < n) : seenOf P = 2 ^ n - 1 ↔ ∀ j, j < n → j ∈ P := by
  constructor
  · intro e j hj
    rw [← seenOf_bit, e, Nat.testBit_two_pow_sub_one]
    simpa using hj
  · intro hall
    refine Nat.eq_of_testBit_eq fun j => ?_
    rw [Nat.testBit_two_pow_sub_one]
    by_cases hj : j < n
    · rw [(seenOf_bit P j).2 (hall j hj)]; simp [hj]
    · have : j ∉ P := fun hm => hj (h j hm)
      have h0 : (seenOf P).testBit j = false := by
        cases e : (seenOf P).testBit j
        · rfl
        · exact absurd ((seenOf_bit P j).1 e) this
      rw [h0]; simp [hj]
/-- n numbers below n: all have come just if none has come twice. -/
theorem names_iff (P : List Nat) (n : Nat) (hl : P.length = n) (h : ∀ x ∈ P, x < n) : seenOf P = 2 ^ n - 1 ↔ P.Nodup := by
  rw [seenOf_full P n h]
  constructor
  · intro hall
    refine Classical.byContradiction fun hn => ?_
    obtain ⟨x, hx, hk⟩ := dup_of_not hn
    have h1 := nodup_len (List.nodup_range (n := n)) (Q := P.erase x) (fun y hy => hk y (hall y (by simpa using hy)))
    have h2 := List.length_erase_of_mem hx
    have h3 : 0 < P.length := List.length_pos_of_mem hx
    rw [List.length_range] at h1
    omega
  · intro hn j hj
    refine Classical.byContradiction fun hm => ?_
    have h1 := nodup_len (List.nodup_cons.2 ⟨hm, hn⟩) (Q := List.range n) (fun y hy => by
      rcases List.mem_cons.1 hy with rfl | h'
      · simpa using hj
      · simpa using h y h')
    rw [List.length_cons, List.length_range] at h1
    omega
end Go.Proofs.YtfhaeocgbihddaaDoor

/- What names are: each of n numbers once. Plain mathematics, no condition. -/

namespace Go.Proofs.YtfhaeocgbihddaaDoor
open Go Go.RowKit
set_option linter.unusedVariables false

def natOf (P : List Int) : List Nat := P.map Int.toNat
def InN (P : List Int) (n k : Nat) : Prop := 0 ≤ P[k]?.getD 0 ∧ P[k]?.getD 0 < (n : Int)
def IsNames (P : List Int) (n : Nat) : Prop := P.length = n ∧ (∀ k, k < P.length → InN P n k) ∧ (natOf P).Nodup
theorem natOf_take (P : List Int) (k : Nat) (h : k < P.length) : (natOf P).take (k + 1) = (natOf P).take k ++ [(P[k]?.getD 0).toNat] := by
  unfold natOf
  rw [List.take_succ_eq_append_getElem (by simpa using h)]
  simp [h]
theorem natOf_mem {P : List Int} {n k : Nat} (h : ∀ u, u < k → InN P n u) (hk : k ≤ P.length) : ∀ x ∈ (natOf P).take k, x < n := by
  intro x hx
  obtain ⟨i, hi, rfl⟩ := List.mem_iff_getElem.1 hx
  simp [natOf] at hi ⊢
  have := h i (by omega)
  unfold InN at this
  have e : P[i]?.getD 0 = P[i] := by simp [show i < P.length by omega]
  rw [e] at this
  omega
theorem names_tell {P : List Int} {n : Nat} (hin : ∀ u, u < P.length → InN P n u) : (P.length = n ∧ seenOf (natOf P) = 2 ^ n - 1) ↔ IsNames P n := by
  have hm : ∀ x ∈ natOf P, x < n := by
    have := natOf_mem hin (Nat.le_refl _)
    rwa [show P.length = (natOf P).length by simp [natOf], List.take_length] at this
  constructor
  · rintro ⟨h1, h2⟩
    exact ⟨h1, hin, (names_iff _ n (by simpa [natOf] using h1) hm).1 h2⟩
  · rintro ⟨h1, _, h3⟩
    exact ⟨h1, (names_iff _ n (by simpa [natOf] using h1) hm).2 h3⟩

end Go.Proofs.YtfhaeocgbihddaaDoor

/- All places of a square, row by row; a name as a natural number. Plain mathematics, no condition. -/

namespace Go.Proofs.YtfhaeocgbihddaaDoor
open Go Go.RowKit

def grid (n v : Nat) : List (Nat × Nat) := (List.range v).flatMap fun a => (List.range n).map fun b => (a, b)
def gridTo (n v x : Nat) : List (Nat × Nat) := grid n v ++ (List.range x).map fun b => (v, b)
theorem grid_zero (n : Nat) : grid n 0 = [] := rfl
theorem gridTo_zero (n v : Nat) : gridTo n v 0 = grid n v := by simp [gridTo]
theorem gridTo_succ (n v x : Nat) : gridTo n v (x + 1) = gridTo n v x ++ [(v, x)] := by simp [gridTo, List.range_succ]
theorem gridTo_end (n v : Nat) : gridTo n v n = grid n (v + 1) := by simp [gridTo, grid, List.range_succ]
theorem grid_all (n a b : Nat) : (a, b) ∈ grid n n ↔ a < n ∧ b < n := by
  unfold grid
  simp
theorem gridTo_mem (n v x : Nat) (hv : v < n) (hx : x ≤ n) : ∀ e ∈ gridTo n v x, e.1 < n ∧ e.2 < n := by
  rintro ⟨a, b⟩ h
  unfold gridTo grid at h
  simp at h
  omega

/-- A name. -/
def nm (P : List Int) (v : Nat) : Nat := (P[v]?.getD 0).toNat
theorem nm_int {P : List Int} {n v : Nat} (h : IsNames P n) (hv : v < n) : P[v]?.getD 0 = (nm P v : Int) ∧ nm P v < n := by
  have h1 := h.2.1 v (by rw [h.1]; exact hv)
  unfold InN at h1
  unfold nm
  omega
theorem nm_ne {P : List Int} {n v x : Nat} (h : IsNames P n) (hv : v < n) (hx : x < n) (hne : v ≠ x) : nm P v ≠ nm P x := fun e => by
  have h1 := h.2.2
  have hl : (natOf P).length = n := by simp [natOf, h.1]
  have hv2 : v < P.length := by have := h.1; omega
  have hx2 : x < P.length := by have := h.1; omega
  have g1 : (natOf P)[v]'(by omega) = nm P v := by simp [natOf, nm, hv2]
  have g2 : (natOf P)[x]'(by omega) = nm P x := by simp [natOf, nm, hx2]
  have hp := List.pairwise_iff_getElem.1 h1
  rcases Nat.lt_or_gt_of_ne hne with h | h
  · exact hp v x (by omega) (by omega) h (by rw [g1, g2]; exact e)
  · exact hp x v (by omega) (by omega) h (by rw [g1, g2]; exact e.symm)
theorem mrun_lt (L : List Int) (n : Nat) (p : Nat → Nat) (es : List (Nat × Nat)) (hp : ∀ e ∈ es, p e.2 < 6) : ∀ x ∈ mrun L n p es, x < 2 ^ 6 := by
  induction es using snoc_ind with
  | h0 => intro x hx; simp [mrun] at hx; omega
  | h1 l x ih =>
    rw [mrun_snoc]
    unfold orAt
    have h1 := ih (fun e he => hp e (by simp [he]))
    refine set_lt h1 _ _ (Nat.or_lt_two_pow (get_lt h1 _ (by decide)) ?_)
    exact bit_shift (bt_le _ _ _) (hp x (by simp))
end Go.Proofs.YtfhaeocgbihddaaDoor

/- The graph of some nodes: the model's way and the program's make one list. Plain mathematics, no condition. -/

namespace Go.Proofs.YtfhaeocgbihddaaDoor
open Go Go.RowKit
set_option linter.unusedVariables false

/-- The node at a place. -/
def at_ (ns : List Nat) (i : Nat) : Nat := ns[i]?.getD 0
theorem at_lt {ns : List Nat} {n : Nat} (h : ∀ x ∈ ns, x < n) {i : Nat} (hi : i < ns.length) : at_ ns i < n := by
  unfold at_
  rw [List.getElem?_eq_getElem hi]
  exact h _ (List.getElem_mem _)
theorem ints_at {ns : List Nat} {i : Nat} (hi : i < ns.length) : (ints ns)[i]?.getD 0 = ((at_ ns i : Nat) : Int) := by rw [ints_get]; rfl
/-- The model's row of a node: the places of its neighbours. -/
def rowTo (L : List Int) (ns : List Nat) (a k : Nat) : Nat := (List.range k).foldl (fun r j => r ||| bt L a (at_ ns j) * 2 ^ j) 0
theorem rowTo_zero (L : List Int) (ns : List Nat) (a : Nat) : rowTo L ns a 0 = 0 := rfl
theorem rowTo_succ (L : List Int) (ns : List Nat) (a k : Nat) : rowTo L ns a (k + 1) = rowTo L ns a k ||| bt L a (at_ ns k) * 2 ^ k := by simp [rowTo, List.range_succ]
theorem rowTo_bit (L : List Int) (ns : List Nat) (a k j : Nat) : (rowTo L ns a k).testBit j = true ↔ j < k ∧ bt L a (at_ ns j) = 1 := by
  induction k with
  | zero => simp [rowTo]
  | succ k ih =>
    rw [rowTo_succ, Nat.testBit_or, Bool.or_eq_true, ih, bit_test _ _ _ (bt_le _ _ _)]
    simp only [Bool.and_eq_true, decide_eq_true_eq]
    constructor
    · rintro (⟨h1, h2⟩ | ⟨h1, h2⟩)
      · exact ⟨by omega, h2⟩
      · subst h2; exact ⟨by omega, h1⟩
    · rintro ⟨h1, h2⟩
      by_cases h : j = k
      · subst h; exact .inr ⟨h2, rfl⟩
      · exact .inl ⟨by omega, h2⟩
theorem rowTo_lt (L : List Int) (ns : List Nat) (a k : Nat) (hk : k ≤ 6) : rowTo L ns a k < 2 ^ 6 := by
  induction k with
  | zero => show 0 < 2 ^ 6; decide
  | succ k ih => rw [rowTo_succ]; exact Nat.or_lt_two_pow (ih (by omega)) (bit_shift (bt_le _ _ _) (by omega))
/-- The model's list, and its first rows. -/
def partTo (L : List Int) (ns : List Nat) (i : Nat) : List Nat := (List.range i).map fun x => rowTo L ns (at_ ns x) ns.length
theorem partTo_zero (L : List Int) (ns : List Nat) : partTo L ns 0 = [] := rfl
theorem partTo_succ (L : List Int) (ns : List Nat) (i : Nat) : partTo L ns (i + 1) = partTo L ns i ++ [rowTo L ns (at_ ns i) ns.length] := by simp [partTo, List.range_succ]
theorem partTo_length (L : List Int) (ns : List Nat) (i : Nat) : (partTo L ns i).length = i := by simp [partTo]
theorem partTo_bit (L : List Int) (ns : List Nat) (i j : Nat) : ((partTo L ns ns.length)[i]?.getD 0).testBit j = true ↔ i < ns.length ∧ j < ns.length ∧ bt L (at_ ns i) (at_ ns j) = 1 := by
  by_cases h : i < ns.length
  · have e : (partTo L ns ns.length)[i]?.getD 0 = rowTo L ns (at_ ns i) ns.length := by simp [partTo, h]
    rw [e, rowTo_bit]
    simp [h]
  · have e : (partTo L ns ns.length)[i]?.getD 0 = 0 := by simp [partTo, h]
    rw [e]
    simp [h]

/-- The program's edges among the nodes kept. -/
def keptIn (L : List Int) (ns : List Nat) (ps : List (Nat × Nat)) : List (Nat × Nat) := ps.filter fun e => bt L (at_ ns e.1) (at_ ns e.2) == 1
theorem keptIn_snoc (L : List Int) (ns : List Nat) (ps : List (Nat × Nat)) (e : Nat × Nat) : keptIn L ns (ps ++ [e]) = keptIn L ns ps ++ (if bt L (at_ ns e.1) (at_ ns e.2) = 1 then [e] else []) := by
  unfold keptIn
  rw [List.filter_append]
  by_cases h : bt L (at_ ns e.1) (at_ ns e.2) = 1 <;> simp [h]
theorem part_eq (L : List Int) (hg : IsGraph L) (ns : List Nat) (hns : ∀ x ∈ ns, x < L.length) : partTo L ns ns.length = lrun ns.length id (keptIn L ns (rows ns.length)) := by
  have hat : ∀ i, i < ns.length → at_ ns i < L.length := fun i hi => by
    unfold at_
    rw [List.getElem?_eq_getElem hi]
    exact hns _ (List.getElem_mem _)
  have sym : ∀ a b, a < L.length → b < L.length → bt L a b = bt L b a := fun a b ha hb => by
    rcases Nat.lt_trichotomy a b with h | h | h
    · exact ((hg.2.2 b hb).2.2 a h).symm
    · rw [h]
    · exact (hg.2.2 a ha).2.2 b h
  refine list_bits (by rw [partTo_length, lrun_length]) fun i j => ?_
  rw [partTo_bit, lrun_bit ns.length id (fun v hv => hv)]
  · constructor
    · rintro ⟨hi, hj, hb⟩
      rcases Nat.lt_trichotomy i j with h | h | h
      · exact ⟨(i, j), by unfold keptIn; rw [List.mem_filter]; exact ⟨(rows_all _ _ _).2 ⟨h, hj⟩, by simpa using hb⟩, .inl ⟨rfl, rfl⟩⟩
      · subst h
        have := (hg.2.2 _ (hat i hi)).2.1
        omega
      · exact ⟨(j, i), by unfold keptIn; rw [List.mem_filter]; exact ⟨(rows_all _ _ _).2 ⟨h, hi⟩, by simpa using (sym _ _ (hat j hj) (hat i hi)).trans hb⟩, .inr ⟨rfl, rfl⟩⟩
    · rintro ⟨⟨a, b⟩, he, h⟩
      unfold keptIn at he
      rw [List.mem_filter] at he
      obtain ⟨he, hb⟩ := he
      obtain ⟨h1, h2⟩ := (rows_all _ _ _).1 he
      have hb1 : bt L (at_ ns a) (at_ ns b) = 1 := by simpa using hb
      rcases h with ⟨hi, hj⟩ | ⟨hi, hj⟩
      · have hi : i = a := hi
        have hj : j = b := hj
        subst hi; subst hj
        exact ⟨by omega, h2, hb1⟩
      · have hi : i = b := hi
        have hj : j = a := hj
        subst hi; subst hj
        exact ⟨h2, by omega, (sym _ _ (hat _ h2) (hat _ (by omega))).trans hb1⟩
  · intro e he
    unfold keptIn at he
    rw [List.mem_filter] at he
    have := rows_mem _ _ he.1
    omega
theorem lrun_lt (n : Nat) (p : Nat → Nat) (es : List (Nat × Nat)) (h : ∀ e ∈ es, p e.1 < 6 ∧ p e.2 < 6) : ∀ x ∈ lrun n p es, x < 2 ^ 6 := by
  induction es using snoc_ind with
  | h0 => intro x hx; simp [lrun] at hx; omega
  | h1 l x ih =>
    rw [lrun_snoc]
    exact lnk_lt (ih (fun e he => h e (by simp [he]))) _ _ _ (h x (by simp)).1 (h x (by simp)).2 (Nat.le_refl 1)
end Go.Proofs.YtfhaeocgbihddaaDoor

/- Whether a beginning of names fits two graphs; the names that make one the other one. Plain mathematics. -/



namespace Go.Proofs.YtfhaeocgbihddaaDoor
open Go.RowKit
set_option linter.unusedVariables false
set_option maxRecDepth 100000

def okAt (L M : List Int) (P : List Nat) (v : Nat) : Bool := bt L v (P.length - 1) == bt M (at_ P v) (at_ P (P.length - 1))
def fitB (L M : List Int) (P : List Nat) : Bool := (List.range (P.length - 1)).all (okAt L M P)
theorem fit_of {L M : List Int} {P : List Nat} (h : ∀ v, v < P.length - 1 → okAt L M P v = true) : fitB L M P = true := List.all_eq_true.2 fun v hv => h v (List.mem_range.1 hv)
theorem fit_not {L M : List Int} {P : List Nat} {v : Nat} (hv : v < P.length - 1) (h : okAt L M P v = false) : fitB L M P = false := by
  cases e : fitB L M P with
  | false => rfl
  | true =>
    have := List.all_eq_true.1 e v (List.mem_range.2 hv)
    rw [h] at this
    cases this
def likeL (L M : List Int) : List (List Nat) := allNames (fun _ P => fitB L M P) L.length
end Go.Proofs.YtfhaeocgbihddaaDoor

/- All names, one node more at a time; those that come to a list by trying. Plain mathematics, no condition. -/


namespace Go.Proofs.YtfhaeocgbihddaaDoor
open Go Go.RowKit
set_option linter.unusedVariables false
set_option maxRecDepth 100000

/-- The names that are left. -/
def left (n : Nat) (P : List Nat) : List Nat := (List.range n).filter fun x => !P.contains x
def ext (n : Nat) (P : List Nat) : List (List Nat) := (left n P).map fun v => P ++ [v]
def extK (n : Nat) : Nat → List (List Nat) → List (List Nat)
  | 0, Ls => Ls
  | k + 1, Ls => extK n k (Ls.flatMap (ext n))
def permsTo (n k : Nat) : List (List Nat) := extK n k [[]]
theorem extK_append (n k : Nat) (A B : List (List Nat)) : extK n k (A ++ B) = extK n k A ++ extK n k B := by
  induction k generalizing A B with
  | zero => rfl
  | succ k ih => unfold extK; rw [List.flatMap_append, ih]
theorem extK_nil (n k : Nat) : extK n k [] = [] := by
  induction k with
  | zero => rfl
  | succ k ih => unfold extK; simpa using ih
theorem extK_flat (n k : Nat) (A : List (List Nat)) : extK n k A = A.flatMap fun P => extK n k [P] := by
  induction A with
  | nil => simp [extK_nil]
  | cons P A ih => rw [show P :: A = [P] ++ A from rfl, extK_append, ih]; simp
theorem extK_succ' (n k : Nat) (A : List (List Nat)) : extK n (k + 1) A = (extK n k A).flatMap (ext n) := by
  induction k generalizing A with
  | zero => rfl
  | succ k ih => show extK n (k + 1) (A.flatMap (ext n)) = _; rw [ih]; rfl
theorem permsTo_succ (n k : Nat) : permsTo n (k + 1) = (permsTo n k).flatMap (ext n) := extK_succ' n k _
theorem mem_left {n : Nat} {P : List Nat} {v : Nat} : v ∈ left n P ↔ v < n ∧ v ∉ P := by simp [left]
theorem left_length (n : Nat) (P : List Nat) : (left n P).length ≤ n := by
  have := List.length_filter_le (fun x => !P.contains x) (List.range n)
  simpa [left] using this
/-- What all of them are. -/
def Names (n k : Nat) (P : List Nat) : Prop := P.length = k ∧ P.Nodup ∧ ∀ x ∈ P, x < n
theorem ext_names {n k : Nat} {P Q : List Nat} (h : Names n k P) (hq : Q ∈ ext n P) : Names n (k + 1) Q := by
  unfold ext at hq
  obtain ⟨v, hv, rfl⟩ := List.mem_map.1 hq
  obtain ⟨h1, h2⟩ := mem_left.1 hv
  refine ⟨by simp [h.1], ?_, ?_⟩
  · rw [List.nodup_append]
    exact ⟨h.2.1, by simp, fun a ha b hb e => h2 (by simp at hb; subst hb; subst e; exact ha)⟩
  · intro x hx
    rcases List.mem_append.1 hx with hx | hx
    · exact h.2.2 x hx
    · rw [List.mem_singleton.1 hx]; exact h1
theorem perms_names (n k : Nat) : ∀ P ∈ permsTo n k, Names n k P := by
  induction k with
  | zero => intro P hP; simp [permsTo, extK] at hP; subst hP; exact ⟨rfl, by simp, by simp⟩
  | succ k ih =>
    intro P hP
    rw [permsTo_succ, List.mem_flatMap] at hP
    obtain ⟨R, hR, hP⟩ := hP
    exact ext_names (ih R hR) hP
theorem ext_length (n : Nat) (P : List Nat) : (ext n P).length ≤ n := by unfold ext; rw [List.length_map]; exact left_length n P
theorem flat_length (n : Nat) (A : List (List Nat)) : (A.flatMap (ext n)).length ≤ A.length * n := by
  induction A with
  | nil => simp
  | cons P A ih =>
    rw [List.flatMap_cons, List.length_append, List.length_cons, Nat.succ_mul]
    have := ext_length n P
    omega
theorem perms_length (n k : Nat) (hn : n ≤ 6) (hk : k ≤ 6) : (permsTo n k).length ≤ 46656 := by
  have h : ∀ k, (permsTo n k).length ≤ 6 ^ k := by
    intro k
    induction k with
    | zero => simp [permsTo, extK]
    | succ k ih =>
      rw [permsTo_succ]
      have h1 := flat_length n (permsTo n k)
      have h2 : (permsTo n k).length * n ≤ 6 ^ k * 6 := Nat.mul_le_mul ih hn
      rw [Nat.pow_succ]
      omega
  exact Nat.le_trans (h k) (Nat.pow_le_pow_right (n := 6) (by omega) hk)

/-! ### trying -/
def leaves (f : List Nat → Bool) : Nat → List Nat → Nat → List (List Nat)
  | 0, P, _ => [P]
  | k + 1, P, s => (nodesL s).flatMap fun v => if f (P ++ [v]) = true then leaves f k (P ++ [v]) (less s (2 ^ v)) else []
theorem foldl_flat {α : Type} (g : Nat → List α) (vs : List Nat) (acc : List α) : vs.foldl (fun a v => a ++ g v) acc = acc ++ vs.flatMap g := by
  induction vs generalizing acc with
  | nil => simp
  | cons v vs ih => rw [List.foldl_cons, ih]; simp
theorem dfs_leaves (f : List Nat → Bool) (k : Nat) : ∀ (acc : List (List Nat)) (P : List Nat) (s : Nat), dfs (fun _ P => f P) k acc P s = acc ++ leaves f k P s := by
  induction k with
  | zero => intro acc P s; rfl
  | succ k ih =>
    intro acc P s
    rw [dfs_succ]
    unfold runF leaves
    rw [← foldl_flat]
    congr 1
    funext a v
    unfold stepF
    split
    · exact ih _ _ _
    · simp
/-- All beginnings longer than p fit. -/
def okFrom (f : List Nat → Bool) (p : Nat) (Q : List Nat) : Bool := (List.range Q.length).all fun i => decide (i < p) || f (Q.take (i + 1))
theorem okFrom_iff (f : List Nat → Bool) (p : Nat) (Q : List Nat) : okFrom f p Q = true ↔ ∀ i, p ≤ i → i < Q.length → f (Q.take (i + 1)) = true := by
  unfold okFrom
  rw [List.all_eq_true]
  constructor
  · intro h i h1 h2
    have := h i (List.mem_range.2 h2)
    simpa [show ¬ i < p by omega] using this
  · intro h i hi
    by_cases h1 : i < p
    · simp [h1]
    · simp [h i (by omega) (List.mem_range.1 hi)]
theorem extK_take (n k : Nat) : ∀ (P Q : List Nat), Q ∈ extK n k [P] → Q.take P.length = P ∧ Q.length = P.length + k := by
  induction k with
  | zero => intro P Q h; simp [extK] at h; subst h; simp
  | succ k ih =>
    intro P Q h
    unfold extK at h
    rw [extK_flat, List.mem_flatMap] at h
    obtain ⟨R, hR, hQ⟩ := h
    simp at hR
    unfold ext at hR
    obtain ⟨v, _, rfl⟩ := List.mem_map.1 hR
    obtain ⟨h1, h2⟩ := ih _ _ hQ
    rw [List.length_append, List.length_singleton] at h1 h2
    refine ⟨?_, by omega⟩
    have h3 := congrArg (List.take P.length) h1
    rw [List.take_take] at h3
    simpa [Nat.min_eq_left (Nat.le_succ P.length)] using h3
/-- A set is the names that are left. -/
def Comp (n : Nat) (P : List Nat) (s : Nat) : Prop := nodesL s = left n P
theorem comp_next : ∀ {n : Nat} {P : List Nat} {s v : Nat}, s < 64 → Comp n P s → v ∈ nodesL s → Comp n (P ++ [v]) (less s (2 ^ v)) := by
  intro n P s v hs h hv
  have h1 := nodes_mem.1 hv
  have h2 := (less_bit ⟨s, hs⟩ ⟨v, h1.1⟩).2 h1.2
  dsimp only at h2
  unfold Comp at h ⊢
  rw [h2.1, h]
  unfold left
  rw [List.filter_filter]
  refine List.filter_congr fun x hx => ?_
  by_cases h3 : x = v
  · subst h3; simp
  · simp [h3]
theorem flat_congr {α β : Type} {l : List α} {f g : α → List β} (h : ∀ a ∈ l, f a = g a) : l.flatMap f = l.flatMap g := by
  induction l with
  | nil => rfl
  | cons a l ih => rw [List.flatMap_cons, List.flatMap_cons, h a (by simp), ih fun b hb => h b (by simp [hb])]
theorem leaves_filter (f : List Nat → Bool) (n k : Nat) : ∀ (P : List Nat) (s : Nat), s < 64 → Comp n P s → leaves f k P s = (extK n k [P]).filter (okFrom f P.length) := by
  induction k with
  | zero =>
    intro P s hs h
    have e : okFrom f P.length P = true := (okFrom_iff _ _ _).2 (fun i h1 h2 => absurd h2 (by omega))
    simp [leaves, extK, e]
  | succ k ih =>
    intro P s hs h
    unfold leaves extK
    rw [extK_flat, show [P].flatMap (ext n) = ext n P by simp, List.filter_flatMap, h]
    unfold ext
    rw [List.flatMap_map]
    refine flat_congr fun v hv => ?_
    have hvs : v ∈ nodesL s := by rw [h]; exact hv
    have hc := comp_next hs h hvs
    have hl : less s (2 ^ v) < 64 := (less_bit ⟨s, hs⟩ ⟨v, (nodes_mem.1 hvs).1⟩).1
    rw [ih _ _ hl hc]
    have hlen : (P ++ [v]).length = P.length + 1 := by simp
    by_cases hf : f (P ++ [v]) = true
    · rw [if_pos hf]
      refine List.filter_congr fun Q hQ => ?_
      obtain ⟨h1, h2⟩ := extK_take n k _ _ hQ
      rw [Bool.eq_iff_iff, okFrom_iff, okFrom_iff, hlen]
      constructor
      · intro h3 i h4 h5
        by_cases h6 : i = P.length
        · subst h6; rw [← hlen, h1]; exact hf
        · exact h3 i (by omega) h5
      · intro h3 i h4 h5
        exact h3 i (by omega) h5
    · rw [if_neg hf]
      symm
      rw [List.filter_eq_nil_iff]
      intro Q hQ
      obtain ⟨h1, h2⟩ := extK_take n k _ _ hQ
      rw [okFrom_iff]
      intro h3
      have := h3 P.length (Nat.le_refl _) (by rw [h2, hlen]; omega)
      rw [← hlen, h1] at this
      exact hf this
theorem full_comp : ∀ n : Fin 7, nodesL (2 ^ n.val - 1) = List.range n.val := by decide
theorem likeL_eq (L M : List Int) (h6 : L.length ≤ 6) : likeL L M = (permsTo L.length L.length).filter (okFrom (fitB L M) 0) := by
  unfold likeL allNames
  rw [dfs_leaves (fitB L M), List.nil_append]
  have h1 := full_comp ⟨L.length, by omega⟩
  dsimp only at h1
  exact leaves_filter (fitB L M) L.length L.length [] _ (by have := two_le h6; have := two_pos L.length; omega) (by unfold Comp left; rw [h1]; exact (List.filter_eq_self.2 (by simp)).symm)
end Go.Proofs.YtfhaeocgbihddaaDoor

/- When names make one graph another one: by codes, and by trying. Plain mathematics, no condition. -/





namespace Go.Proofs.YtfhaeocgbihddaaDoor
open Go Go.RowKit
set_option linter.unusedVariables false
set_option maxRecDepth 100000

/-- The graph with its nodes named. -/
def namedL (L : List Int) (P : List Nat) : List Int := ints (mrun L L.length (nm (ints P)) (grid L.length L.length))
theorem nm_ints (P : List Nat) (v : Nat) : nm (ints P) v = at_ P v := by
  unfold nm at_
  rw [ints_get]
  rfl
theorem names_is {n : Nat} {P : List Nat} (h : Names n n P) : IsNames (ints P) n := by
  have hnat : natOf (ints P) = P := by
    unfold natOf ints
    rw [List.map_map]
    exact (List.map_congr_left (fun x _ => by simp)).trans (List.map_id P)
  refine ⟨by rw [ints_length]; exact h.1, fun k hk => ?_, by rw [hnat]; exact h.2.1⟩
  rw [ints_length] at hk
  unfold InN
  rw [ints_at hk]
  have := at_lt h.2.2 hk
  omega
theorem at_inj {n : Nat} {P : List Nat} (h : Names n n P) {a b : Nat} (ha : a < n) (hb : b < n) (e : at_ P a = at_ P b) : a = b := by
  refine Classical.byContradiction fun hne => ?_
  have := nm_ne (names_is h) ha hb hne
  rw [nm_ints, nm_ints] at this
  exact this e
theorem at_surj {n : Nat} {P : List Nat} (h : Names n n P) {j : Nat} (hj : j < n) : ∃ a, a < n ∧ at_ P a = j := by
  have h1 : seenOf P = 2 ^ n - 1 := (names_iff P n h.1 h.2.2).2 h.2.1
  have h2 := (seenOf_full P n h.2.2).1 h1 j hj
  obtain ⟨a, ha, e⟩ := List.mem_iff_getElem.1 h2
  refine ⟨a, by rw [← h.1]; exact ha, ?_⟩
  unfold at_
  rw [List.getElem?_eq_getElem ha]
  exact e
theorem bt_ints (g : List Nat) (i j : Nat) : bt (ints g) i j = 1 ↔ (g[i]?.getD 0).testBit j = true := by
  unfold bt ent
  rw [ints_get, Int.toNat_natCast, Nat.testBit_eq_decide_div_mod_eq, decide_eq_true_eq]
theorem named_bt {L : List Int} {P : List Nat} (h : Names L.length L.length P) (i j : Nat) : bt (namedL L P) i j = 1 ↔ ∃ a b, a < L.length ∧ b < L.length ∧ bt L a b = 1 ∧ i = at_ P a ∧ j = at_ P b := by
  unfold namedL
  rw [bt_ints, mrun_bit L L.length (nm (ints P)) (fun v hv => (nm_int (names_is h) hv).2) _ (fun e he => by obtain ⟨a, b⟩ := e; exact ((grid_all _ _ _).1 he).1)]
  constructor
  · rintro ⟨⟨a, b⟩, he, h1, h2, h3⟩
    obtain ⟨ha, hb⟩ := (grid_all _ _ _).1 he
    exact ⟨a, b, ha, hb, h1, by rw [← nm_ints]; exact h2, by rw [← nm_ints]; exact h3⟩
  · rintro ⟨a, b, ha, hb, h1, h2, h3⟩
    exact ⟨(a, b), (grid_all _ _ _).2 ⟨ha, hb⟩, h1, by rw [nm_ints]; exact h2, by rw [nm_ints]; exact h3⟩
theorem bt_eq {L M : List Int} {a b c d : Nat} (h : bt L a b = 1 ↔ bt M c d = 1) : bt L a b = bt M c d := by
  have h1 := bt_le L a b
  have h2 := bt_le M c d
  by_cases h3 : bt L a b = 1
  · rw [h3, h.1 h3]
  · have h4 : ¬ bt M c d = 1 := fun e => h3 (h.2 e)
    omega
theorem named_at {L : List Int} {P : List Nat} (h : Names L.length L.length P) {a b : Nat} (ha : a < L.length) (hb : b < L.length) : bt (namedL L P) (at_ P a) (at_ P b) = bt L a b := by
  refine bt_eq ?_
  rw [named_bt h]
  constructor
  · rintro ⟨c, d, hc, hd, h1, h2, h3⟩
    rw [at_inj h ha hc h2, at_inj h hb hd h3]
    exact h1
  · intro h1
    exact ⟨a, b, ha, hb, h1, rfl, rfl⟩
theorem bt_sym {L : List Int} (hg : IsGraph L) {a b : Nat} (ha : a < L.length) (hb : b < L.length) : bt L a b = bt L b a := by
  rcases Nat.lt_trichotomy a b with h | h | h
  · exact ((hg.2.2 b hb).2.2 a h).symm
  · rw [h]
  · exact (hg.2.2 a ha).2.2 b h
theorem namedL_length (L : List Int) (P : List Nat) : (namedL L P).length = L.length := by unfold namedL; rw [ints_length, mrun_length]
theorem named_graph {L : List Int} (hg : IsGraph L) {P : List Nat} (h : Names L.length L.length P) : IsGraph (namedL L P) := by
  have hl := namedL_length L P
  refine ⟨by rw [hl]; exact hg.1, by rw [hl]; exact hg.2.1, fun v hv => ?_⟩
  rw [hl] at hv
  refine ⟨?_, ?_, fun w hw => ?_⟩
  · unfold InR
    rw [hl]
    unfold namedL
    rw [ints_get]
    refine ⟨by omega, ?_⟩
    have h1 : (mrun L L.length (nm (ints P)) (grid L.length L.length))[v]?.getD 0 < 2 ^ L.length := by
      refine Nat.lt_pow_two_of_testBit _ fun j hj => ?_
      cases e : ((mrun L L.length (nm (ints P)) (grid L.length L.length))[v]?.getD 0).testBit j with
      | false => rfl
      | true =>
        have h2 := (named_bt h v j).1 ((bt_ints _ _ _).2 e)
        obtain ⟨a, b, ha, hb, _, _, h3⟩ := h2
        have := at_lt h.2.2 (show b < P.length by rw [h.1]; exact hb)
        omega
    omega
  · have h1 := bt_le (namedL L P) v v
    refine Nat.le_antisymm ?_ (Nat.zero_le _)
    refine Nat.le_of_not_lt fun h2 => ?_
    have h3 : bt (namedL L P) v v = 1 := by omega
    obtain ⟨a, b, ha, hb, h4, h5, h6⟩ := (named_bt h v v).1 h3
    have h7 := at_inj h ha hb (h5.symm.trans h6)
    subst h7
    have := (hg.2.2 a ha).2.1
    omega
  · refine bt_eq ?_
    rw [named_bt h, named_bt h]
    constructor
    · rintro ⟨a, b, ha, hb, h1, h2, h3⟩
      exact ⟨b, a, hb, ha, (bt_sym hg hb ha).trans h1, h3, h2⟩
    · rintro ⟨a, b, ha, hb, h1, h2, h3⟩
      exact ⟨b, a, hb, ha, (bt_sym hg hb ha).trans h1, h3, h2⟩

/-! ### codes -/
theorem crun_bit (L : List Int) (ps : List (Nat × Nat)) (k : Nat) (hk : k < ps.length) : (crun L ps).1.testBit k = true ↔ bt L (ps[k]).1 (ps[k]).2 = 1 := by
  induction ps using snoc_ind with
  | h0 => simp at hk
  | h1 l x ih =>
    rw [crun_snoc]
    unfold cstep
    dsimp only
    rw [Nat.testBit_or, crun_at, Bool.or_eq_true, bit_test _ _ _ (bt_le _ _ _)]
    simp only [Bool.and_eq_true, decide_eq_true_eq]
    rw [List.length_append, List.length_singleton] at hk
    by_cases h : k < l.length
    · rw [List.getElem_append_left h, ih h]
      constructor
      · rintro (h1 | ⟨_, h1⟩)
        · exact h1
        · omega
      · exact .inl
    · have hkl : k = l.length := by omega
      subst hkl
      rw [List.getElem_append_right (Nat.le_refl _)]
      have h1 := crun_lt L l
      have h2 : (crun L l).1.testBit l.length = false := Nat.testBit_lt_two_pow h1
      rw [h2]
      simp
theorem graph_ext {A B : List Int} (hA : IsGraph A) (hB : IsGraph B) (hl : A.length = B.length) (h : ∀ i j, i < A.length → j < A.length → bt A i j = bt B i j) : A = B := by
  refine List.ext_getElem hl fun i h1 h2 => ?_
  have a1 := (hA.2.2 i h1).1
  have b1 := (hB.2.2 i h2).1
  have e : ent A i = ent B i := by
    refine Nat.eq_of_testBit_eq fun j => ?_
    by_cases hj : j < A.length
    · have h3 := h i j h1 hj
      unfold bt at h3
      rw [Nat.testBit_eq_decide_div_mod_eq, Nat.testBit_eq_decide_div_mod_eq, h3]
    · have h4 := ent_lt a1
      have h5 := ent_lt b1
      rw [← hl] at h5
      rw [Nat.testBit_lt_two_pow (Nat.lt_of_lt_of_le h4 (pow_le _ _ (by omega))), Nat.testBit_lt_two_pow (Nat.lt_of_lt_of_le h5 (pow_le _ _ (by omega)))]
  have h6 := ent_int a1
  have h7 := ent_int b1
  rw [List.getElem?_eq_getElem h1] at h6
  rw [List.getElem?_eq_getElem h2] at h7
  simp only [Option.getD_some] at h6 h7
  rw [h6, h7, e]
theorem code_inj {A B : List Int} (hA : IsGraph A) (hB : IsGraph B) (hl : A.length = B.length) (h : codeOf A = codeOf B) : A = B := by
  have hp : ∀ a b, a < b → b < A.length → bt A a b = bt B a b := fun a b hab hb => by
    obtain ⟨k, hk, e⟩ := List.mem_iff_getElem.1 ((rows_all A.length a b).2 ⟨hab, hb⟩)
    have h1 := crun_bit A (rows A.length) k hk
    have h2 := crun_bit B (rows A.length) k hk
    rw [e] at h1 h2
    refine bt_eq (h1.symm.trans (Iff.trans ?_ h2))
    unfold codeOf at h
    rw [← hl] at h
    rw [h]
  refine graph_ext hA hB hl fun i j hi hj => ?_
  rcases Nat.lt_trichotomy i j with h1 | h1 | h1
  · exact hp i j h1 hj
  · subst h1
    rw [(hA.2.2 i hi).2.1, (hB.2.2 i (by omega)).2.1]
  · rw [bt_sym hA hi hj, bt_sym hB (by omega) (by omega)]
    exact hp j i h1 hi
theorem take_at {P : List Nat} {i v : Nat} (h : v < i) : at_ (P.take i) v = at_ P v := by
  unfold at_
  rw [List.getElem?_take_of_lt h]
/-- **By codes and by trying.** -/
theorem ok_iff {L M : List Int} (hL : IsGraph L) (hM : IsGraph M) (hl : L.length = M.length) {P : List Nat} (h : Names L.length L.length P) : okFrom (fitB L M) 0 P = true ↔ codeOf (namedL L P) = codeOf M := by
  rw [okFrom_iff]
  constructor
  · intro hok
    have h1 : ∀ v i, v < i → i < L.length → bt L v i = bt M (at_ P v) (at_ P i) := fun v i hvi hi => by
      have h2 := hok i (Nat.zero_le _) (by rw [h.1]; exact hi)
      unfold fitB at h2
      have hlen : (P.take (i + 1)).length - 1 = i := by rw [List.length_take, h.1]; omega
      rw [hlen] at h2
      have h3 := List.all_eq_true.1 h2 v (List.mem_range.2 hvi)
      unfold okAt at h3
      rw [hlen, take_at (by omega), take_at (by omega)] at h3
      simpa using h3
    have h2 : namedL L P = M := by
      refine graph_ext (named_graph hL h) hM (by rw [namedL_length, hl]) fun i j hi hj => ?_
      rw [namedL_length] at hi hj
      obtain ⟨a, ha, rfl⟩ := at_surj h hi
      obtain ⟨b, hb, rfl⟩ := at_surj h hj
      rw [named_at h ha hb]
      rcases Nat.lt_trichotomy a b with h3 | h3 | h3
      · exact h1 a b h3 hb
      · subst h3
        rw [(hL.2.2 a ha).2.1, (hM.2.2 _ (by omega)).2.1]
      · rw [bt_sym hL ha hb, bt_sym hM (by omega) (by omega)]
        exact h1 b a h3 ha
    rw [h2]
  · intro hc i _ hi
    rw [h.1] at hi
    have h2 := code_inj (named_graph hL h) hM (by rw [namedL_length, hl]) hc
    unfold fitB
    have hlen : (P.take (i + 1)).length - 1 = i := by rw [List.length_take, h.1]; omega
    rw [hlen, List.all_eq_true]
    intro v hv
    have hv := List.mem_range.1 hv
    unfold okAt
    rw [hlen, take_at (by omega), take_at (by omega), ← h2, named_at h (by omega) hi]
    simp
end Go.Proofs.YtfhaeocgbihddaaDoor

/- Names that fit, by codes. Plain mathematics, no condition. -/


namespace Go.Proofs.YtfhaeocgbihddaaDoor
open Go Go.RowKit
set_option linter.unusedVariables false
set_option maxRecDepth 100000

theorem empty_list (w : World) : Row (w.alloc (.cells #[] 3)) w.heap.size (.slice (some ⟨w.heap.size, 0, none⟩) 0 0) [] :=
  World.ownsRow_lit (base := w.heap.size) (e := 3) (size := 1) w #[] 0 (Nat.le_refl _) (by unfold maxLen; omega) rfl
def okC (L M : List Int) (P : List Nat) : Bool := codeOf (namedL L P) == codeOf M
theorem likeL_codes {L M : List Int} (hL : IsGraph L) (hM : IsGraph M) (hl : L.length = M.length) : likeL L M = (permsTo L.length L.length).filter (okC L M) := by
  rw [likeL_eq L M hL.2.1]
  refine List.filter_congr fun P hP => ?_
  have h := ok_iff hL hM hl (perms_names _ _ P hP)
  unfold okC
  rw [Bool.eq_iff_iff, h]
  simp
theorem filter_first {p : List Nat → Bool} {R : List (List Nat)} {k : Nat} (hk : k < R.length) (h0 : ∀ j, j < k → p (R[j]?.getD []) = false) (h1 : p (R[k]?.getD []) = true) : ∃ t, R.filter p = (R[k]?.getD []) :: t := by
  induction R generalizing k with
  | nil => simp at hk
  | cons x R ih =>
    cases k with
    | zero =>
      have hx : p x = true := by simpa using h1
      exact ⟨R.filter p, by simp [hx]⟩
    | succ k =>
      have hx : p x = false := by simpa using h0 0 (by omega)
      obtain ⟨t, ht⟩ := ih (k := k) (by simpa using hk) (fun j hj => by simpa using h0 (j + 1) (by omega)) (by simpa using h1)
      exact ⟨t, by simpa [List.filter_cons, hx] using ht⟩
theorem filter_none {p : List Nat → Bool} {R : List (List Nat)} (h0 : ∀ j, j < R.length → p (R[j]?.getD []) = false) : R.filter p = [] := by
  rw [List.filter_eq_nil_iff]
  intro a ha
  obtain ⟨j, hj, rfl⟩ := List.mem_iff_getElem.1 ha
  have := h0 j hj
  simp [hj] at this
  simp [this]

end Go.Proofs.YtfhaeocgbihddaaDoor

/- Names one behind another, and back; alike graphs have one least code and as many edges. Plain mathematics, no condition. -/


namespace Go.Proofs.YtfhaeocgbihddaaDoor
open Go Go.RowKit
set_option linter.unusedVariables false
set_option maxRecDepth 100000

theorem range_perms (n : Nat) : ∀ k, k ≤ n → List.range k ∈ permsTo n k
  | 0, _ => by simp [permsTo, extK]
  | k + 1, h => by
    rw [permsTo_succ]
    refine List.mem_flatMap.2 ⟨List.range k, range_perms n k (by omega), ?_⟩
    unfold ext
    exact List.mem_map.2 ⟨k, mem_left.2 ⟨by omega, by simp⟩, List.range_succ.symm⟩
theorem at_range {n i v : Nat} (hv : v < i) (hi : i ≤ n) : at_ ((List.range n).take i) v = v := by
  rw [take_at hv]
  unfold at_
  simp [show v < n by omega]
theorem id_okC {L : List Int} (hL : IsGraph L) : okC L L (List.range L.length) = true := by
  have hp := range_perms L.length L.length (Nat.le_refl _)
  have hn := perms_names _ _ _ hp
  unfold okC
  rw [beq_iff_eq]
  refine (ok_iff hL hL rfl hn).1 ?_
  rw [okFrom_iff]
  intro i _ hi
  rw [List.length_range] at hi
  have hl : ((List.range L.length).take (i + 1)).length = i + 1 := by rw [List.length_take, List.length_range]; omega
  unfold fitB
  rw [List.all_eq_true]
  intro v hv
  rw [List.mem_range, hl] at hv
  unfold okAt
  rw [hl, at_range (by omega) (by omega), at_range (by omega) (by omega)]
  simp

theorem perms_all (n : Nat) : ∀ (k : Nat) (P : List Nat), Names n k P → P ∈ permsTo n k
  | 0, P, h => by
    have e : P = [] := List.eq_nil_of_length_eq_zero h.1
    subst e
    simp [permsTo, extK]
  | k + 1, P, h => by
    have hk : k < P.length := by rw [h.1]; omega
    have e : P = P.take k ++ [P[k]] := by rw [← List.take_succ_eq_append_getElem hk, ← h.1, List.take_length]
    have hnd := h.2.1
    rw [e, List.nodup_append] at hnd
    have ht : Names n k (P.take k) := ⟨by rw [List.length_take, h.1]; omega, hnd.1, fun x hx => h.2.2 x (List.mem_of_mem_take hx)⟩
    rw [permsTo_succ]
    refine List.mem_flatMap.2 ⟨P.take k, perms_all n k _ ht, ?_⟩
    unfold ext
    refine List.mem_map.2 ⟨P[k], mem_left.2 ⟨h.2.2 _ (List.getElem_mem _), fun hm => hnd.2.2 _ hm _ (by simp) rfl⟩, e.symm⟩

theorem map_range_at (n : Nat) (f : Nat → Nat) {v : Nat} (hv : v < n) : at_ ((List.range n).map f) v = f v := by
  unfold at_
  simp [hv]
theorem map_range_names {n : Nat} {f : Nat → Nat} (h : ∀ v, v < n → f v < n) (hi : ∀ a b, a < n → b < n → f a = f b → a = b) : Names n n ((List.range n).map f) := by
  refine ⟨by simp, ?_, fun x hx => ?_⟩
  · unfold List.Nodup
    rw [List.pairwise_map]
    exact List.Pairwise.imp_of_mem (fun {a b} ha hb hne he => hne (hi a b (List.mem_range.1 ha) (List.mem_range.1 hb) he)) List.nodup_range
  · obtain ⟨v, hv, rfl⟩ := List.mem_map.1 hx
    exact h v (List.mem_range.1 hv)
theorem at_name {n : Nat} {P : List Nat} (h : Names n n P) {v : Nat} (hv : v < n) : at_ P v < n := at_lt h.2.2 (by rw [h.1]; exact hv)

def compP (n : Nat) (P Q : List Nat) : List Nat := (List.range n).map fun v => at_ Q (at_ P v)
theorem comp_names {n : Nat} {P Q : List Nat} (hP : Names n n P) (hQ : Names n n Q) : Names n n (compP n P Q) :=
  map_range_names (fun v hv => at_name hQ (at_name hP hv)) (fun a b ha hb e => at_inj hP ha hb (at_inj hQ (at_name hP ha) (at_name hP hb) e))
def invF (n : Nat) (P : List Nat) (j : Nat) : Nat := ((List.range n).find? fun a => at_ P a == j).getD 0
theorem invF_spec {n : Nat} {P : List Nat} (hP : Names n n P) {j : Nat} (hj : j < n) : invF n P j < n ∧ at_ P (invF n P j) = j := by
  obtain ⟨a, ha, e⟩ := at_surj hP hj
  unfold invF
  cases h : (List.range n).find? fun a => at_ P a == j with
  | none =>
    have h1 := List.find?_eq_none.1 h a (List.mem_range.2 ha)
    simp [e] at h1
  | some b =>
    have h1 := List.find?_some h
    have h2 := List.mem_of_find?_eq_some h
    exact ⟨List.mem_range.1 h2, by simpa using h1⟩
def invP (n : Nat) (P : List Nat) : List Nat := (List.range n).map (invF n P)
theorem inv_names {n : Nat} {P : List Nat} (hP : Names n n P) : Names n n (invP n P) :=
  map_range_names (fun v hv => (invF_spec hP hv).1) (fun a b ha hb e => by rw [← (invF_spec hP ha).2, ← (invF_spec hP hb).2, e])

theorem named_comp {L : List Int} (hL : IsGraph L) {P Q : List Nat} (hP : Names L.length L.length P) (hQ : Names L.length L.length Q) : namedL (namedL L P) Q = namedL L (compP L.length P Q) := by
  have hl := namedL_length L P
  have hC := comp_names hP hQ
  have hQ' : Names (namedL L P).length (namedL L P).length Q := by rw [hl]; exact hQ
  refine graph_ext (named_graph (named_graph hL hP) hQ') (named_graph hL hC) (by rw [namedL_length, namedL_length, namedL_length]) fun i j hi hj => ?_
  rw [namedL_length, hl] at hi hj
  obtain ⟨a, ha, ea⟩ := at_surj hC hi
  obtain ⟨b, hb, eb⟩ := at_surj hC hj
  have e1 : i = at_ Q (at_ P a) := by rw [← ea]; unfold compP; rw [map_range_at _ _ ha]
  have e2 : j = at_ Q (at_ P b) := by rw [← eb]; unfold compP; rw [map_range_at _ _ hb]
  have h1 : bt (namedL L (compP L.length P Q)) i j = bt L a b := by rw [← ea, ← eb]; exact named_at hC ha hb
  rw [h1, e1, e2, named_at hQ' (by rw [hl]; exact at_name hP ha) (by rw [hl]; exact at_name hP hb), named_at hP ha hb]
theorem named_inv {L : List Int} (hL : IsGraph L) {P : List Nat} (hP : Names L.length L.length P) : namedL (namedL L P) (invP L.length P) = L := by
  have hl := namedL_length L P
  have hI := inv_names hP
  have hI' : Names (namedL L P).length (namedL L P).length (invP L.length P) := by rw [hl]; exact hI
  have hat : ∀ i, i < L.length → at_ (invP L.length P) (at_ P i) = i := fun i hi => by
    unfold invP
    rw [map_range_at _ _ (at_name hP hi)]
    have h1 := invF_spec hP (at_name hP hi)
    exact at_inj hP h1.1 hi h1.2
  refine graph_ext (named_graph (named_graph hL hP) hI') hL (by rw [namedL_length, hl]) fun i j hi hj => ?_
  rw [namedL_length, hl] at hi hj
  have h1 := named_at hI' (L := namedL L P) (a := at_ P i) (b := at_ P j) (by rw [hl]; exact at_name hP hi) (by rw [hl]; exact at_name hP hj)
  rw [hat i hi, hat j hj] at h1
  rw [h1, named_at hP hi hj]
theorem named_id {L : List Int} (hL : IsGraph L) : namedL L (List.range L.length) = L := by
  have h := id_okC hL
  unfold okC at h
  rw [beq_iff_eq] at h
  exact code_inj (named_graph hL (perms_names _ _ _ (range_perms _ _ (Nat.le_refl _)))) hL (namedL_length _ _) h

/-! ### edges -/
theorem count_le {α : Type} [DecidableEq α] (p : α → Bool) : ∀ (l1 l2 : List α), l1.Nodup → (∀ x ∈ l1, x ∈ l2) → (l1.filter p).length ≤ (l2.filter p).length
  | [], _, _, _ => by simp
  | x :: l1, l2, hn, hs => by
    have hx := hs x List.mem_cons_self
    have hn' := List.nodup_cons.1 hn
    have ih := count_le p l1 (l2.erase x) hn'.2 (fun y hy => (List.mem_erase_of_ne (fun e => hn'.1 (by rw [← e]; exact hy))).2 (hs y (List.mem_cons_of_mem _ hy)))
    have hp := ((List.perm_cons_erase hx).filter p).length_eq
    rw [hp, List.filter_cons, List.filter_cons]
    by_cases h : p x = true
    · rw [if_pos h, if_pos h]; simp; omega
    · rw [if_neg h, if_neg h]; exact ih
theorem rows_nodup : ∀ n : Fin 7, (rows n.val).Nodup := by decide
theorem edges_in {L : List Int} (h6 : L.length ≤ 6) : edgesN L = (edgesIn L (rows L.length)).length := pc_crun L _ (rows_length L.length h6)
def pairUp (P : List Nat) (x : Nat × Nat) : Nat × Nat := (min (at_ P x.1) (at_ P x.2), max (at_ P x.1) (at_ P x.2))
set_option maxHeartbeats 2000000 in
theorem edges_le {L : List Int} (hL : IsGraph L) {P : List Nat} (hP : Names L.length L.length P) : edgesN L ≤ edgesN (namedL L P) := by
  have h6 := hL.2.1
  have hl := namedL_length L P
  have hN := named_graph hL hP
  rw [edges_in h6, edges_in (L := namedL L P) (by rw [hl]; exact h6), hl]
  unfold edgesIn
  have hmem : ∀ x ∈ rows L.length, x.1 < x.2 ∧ x.2 < L.length := fun x hx => (rows_all L.length x.1 x.2).1 hx
  have hnd : ((rows L.length).map (pairUp P)).Nodup := by
    unfold List.Nodup
    rw [List.pairwise_map]
    refine List.Pairwise.imp_of_mem (fun {x y} hx hy hne he => hne ?_) (rows_nodup ⟨L.length, by omega⟩)
    obtain ⟨x1, x2⟩ := hmem x hx
    obtain ⟨y1, y2⟩ := hmem y hy
    unfold pairUp at he
    injection he with e1 e2
    have n1 : at_ P x.1 ≠ at_ P x.2 := fun e => by have := at_inj hP (by omega) (by omega) e; omega
    have n2 : at_ P y.1 ≠ at_ P y.2 := fun e => by have := at_inj hP (by omega) (by omega) e; omega
    have h3 : (at_ P x.1 = at_ P y.1 ∧ at_ P x.2 = at_ P y.2) ∨ (at_ P x.1 = at_ P y.2 ∧ at_ P x.2 = at_ P y.1) := by omega
    rcases h3 with ⟨h3, h4⟩ | ⟨h3, h4⟩
    · exact Prod.ext (at_inj hP (by omega) (by omega) h3) (at_inj hP (by omega) (by omega) h4)
    · have := at_inj hP (by omega) (by omega) h3
      have := at_inj hP (by omega) (by omega) h4
      omega
  have hsub : ∀ x ∈ (rows L.length).map (pairUp P), x ∈ rows L.length := fun x hx => by
    obtain ⟨y, hy, rfl⟩ := List.mem_map.1 hx
    obtain ⟨y1, y2⟩ := hmem y hy
    have n2 : at_ P y.1 ≠ at_ P y.2 := fun e => by have := at_inj hP (by omega) (by omega) e; omega
    have m1 := at_name hP (show y.1 < L.length by omega)
    have m2 := at_name hP (show y.2 < L.length by omega)
    refine (rows_all L.length _ _).2 ⟨?_, ?_⟩
    · show min (at_ P y.1) (at_ P y.2) < max (at_ P y.1) (at_ P y.2); omega
    · show max (at_ P y.1) (at_ P y.2) < L.length; omega
  refine Nat.le_trans (Nat.le_of_eq ?_) (count_le (fun p => bt (namedL L P) p.1 p.2 == 1) _ _ hnd hsub)
  rw [List.filter_map, List.length_map]
  congr 1
  refine List.filter_congr fun x hx => ?_
  obtain ⟨x1, x2⟩ := hmem x hx
  have m1 := at_name hP (show x.1 < L.length by omega)
  have m2 := at_name hP (show x.2 < L.length by omega)
  have h := named_at hP (show x.1 < L.length by omega) (show x.2 < L.length by omega)
  show (bt L x.1 x.2 == 1) = (bt (namedL L P) (min (at_ P x.1) (at_ P x.2)) (max (at_ P x.1) (at_ P x.2)) == 1)
  rcases Nat.le_total (at_ P x.1) (at_ P x.2) with h1 | h1
  · rw [Nat.min_eq_left h1, Nat.max_eq_right h1, h]
  · rw [Nat.min_eq_right h1, Nat.max_eq_left h1, bt_sym hN (by rw [hl]; exact m2) (by rw [hl]; exact m1), h]
theorem edges_named {L : List Int} (hL : IsGraph L) {P : List Nat} (hP : Names L.length L.length P) : edgesN (namedL L P) = edgesN L := by
  have hl := namedL_length L P
  have h1 := edges_le hL hP
  have h2 := edges_le (named_graph hL hP) (P := invP L.length P) (by rw [hl]; exact inv_names hP)
  rw [named_inv hL hP] at h2
  omega

/-! ### the least code -/
def minTo (L : List Int) (R : List (List Nat)) : Nat := R.foldl (fun b P => min b (codeOf (namedL L P))) (codeOf L)
theorem minTo_nil (L : List Int) : minTo L [] = codeOf L := rfl
theorem minTo_snoc (L : List Int) (R : List (List Nat)) (P : List Nat) : minTo L (R ++ [P]) = min (minTo L R) (codeOf (namedL L P)) := by simp [minTo]
theorem minTo_le (L : List Int) (R : List (List Nat)) : ∀ P ∈ R, minTo L R ≤ codeOf (namedL L P) := by
  induction R using snoc_ind with
  | h0 => intro P hP; cases hP
  | h1 l x ih =>
    intro P hP
    rw [minTo_snoc]
    rcases List.mem_append.1 hP with h | h
    · exact Nat.le_trans (Nat.min_le_left _ _) (ih P h)
    · rw [List.mem_singleton.1 h]; exact Nat.min_le_right _ _
theorem minTo_is (L : List Int) (R : List (List Nat)) : minTo L R = codeOf L ∨ ∃ P ∈ R, minTo L R = codeOf (namedL L P) := by
  induction R using snoc_ind with
  | h0 => exact .inl rfl
  | h1 l x ih =>
    rw [minTo_snoc]
    rcases Nat.le_total (minTo L l) (codeOf (namedL L x)) with h | h
    · rw [Nat.min_eq_left h]
      rcases ih with e | ⟨P, hP, e⟩
      · exact .inl e
      · exact .inr ⟨P, by simp [hP], e⟩
    · rw [Nat.min_eq_right h]
      exact .inr ⟨x, by simp, rfl⟩
def leastL (L : List Int) : Nat := minTo L (permsTo L.length L.length)
theorem least_le {L : List Int} {P : List Nat} (hP : Names L.length L.length P) : leastL L ≤ codeOf (namedL L P) := minTo_le L _ P (perms_all _ _ P hP)
theorem least_is {L : List Int} (hL : IsGraph L) : ∃ P, Names L.length L.length P ∧ leastL L = codeOf (namedL L P) := by
  rcases minTo_is L (permsTo L.length L.length) with e | ⟨P, hP, e⟩
  · exact ⟨_, perms_names _ _ _ (range_perms _ _ (Nat.le_refl _)), by rw [named_id hL]; exact e⟩
  · exact ⟨P, perms_names _ _ _ hP, e⟩
theorem least_named {L : List Int} (hL : IsGraph L) {P : List Nat} (hP : Names L.length L.length P) : leastL (namedL L P) = leastL L := by
  have hl := namedL_length L P
  have hN := named_graph hL hP
  refine Nat.le_antisymm ?_ ?_
  · obtain ⟨R, hR, e⟩ := least_is hL
    have hI := inv_names hP
    have hC := comp_names hI hR
    have h1 := named_comp (L := namedL L P) hN (P := invP L.length P) (Q := R) (by rw [hl]; exact hI) (by rw [hl]; exact hR)
    rw [named_inv hL hP, hl] at h1
    rw [e, h1]
    exact least_le (by rw [hl]; exact hC)
  · obtain ⟨R, hR, e⟩ := least_is hN
    rw [hl] at hR
    rw [e, named_comp hL hP hR]
    exact least_le (comp_names hP hR)
/-- **Alike by names, and by least codes.** -/
theorem alike_iff {L M : List Int} (hL : IsGraph L) (hM : IsGraph M) (hl : L.length = M.length) : likeL L M ≠ [] ↔ (edgesN L = edgesN M ∧ leastL L = leastL M) := by
  rw [likeL_codes hL hM hl]
  constructor
  · intro h
    obtain ⟨P, hP⟩ := List.exists_mem_of_ne_nil _ h
    obtain ⟨h1, h2⟩ := List.mem_filter.1 hP
    have hn := perms_names _ _ _ h1
    unfold okC at h2
    rw [beq_iff_eq] at h2
    have e := code_inj (named_graph hL hn) hM (by rw [namedL_length, hl]) h2
    rw [← e]
    exact ⟨(edges_named hL hn).symm, (least_named hL hn).symm⟩
  · rintro ⟨_, h⟩
    obtain ⟨P, hP, e1⟩ := least_is hL
    obtain ⟨Q, hQ, e2⟩ := least_is hM
    have e := code_inj (named_graph hL hP) (named_graph hM hQ) (by rw [namedL_length, namedL_length, hl]) (by rw [← e1, ← e2, h])
    have hQ' : Names L.length L.length Q := by rw [hl]; exact hQ
    have h1 := named_inv hM hQ
    rw [← e, ← hl, named_comp hL hP (inv_names hQ')] at h1
    refine List.ne_nil_of_mem (a := compP L.length P (invP L.length Q)) (List.mem_filter.2 ⟨perms_all _ _ _ (comp_names hP (inv_names hQ')), ?_⟩)
    unfold okC
    rw [h1, beq_self_eq_true]

end Go.Proofs.YtfhaeocgbihddaaDoor

/- The other graph is a graph. Plain mathematics, no condition. -/



namespace Go.Proofs.YtfhaeocgbihddaaDoor
open Go Go.RowKit
set_option linter.unusedVariables false
set_option maxRecDepth 100000

theorem other_ent (L : List Int) {i : Nat} (hi : i < L.length) : (otherL L L.length)[i]?.getD 0 = ((oth L i : Nat) : Int) := by
  unfold otherL
  simp [hi]
theorem oth_le (L : List Int) (k : Nat) : oth L k < 2 ^ L.length := by
  unfold oth
  have h1 := less_le (less (2 ^ L.length - 1) (ent L k)) (2 ^ k)
  have h2 := less_le (2 ^ L.length - 1) (ent L k)
  have := two_pos L.length
  omega
theorem oth_bit {L : List Int} (hL : IsGraph L) {i : Nat} (hi : i < L.length) (j : Nat) : (oth L i).testBit j = (decide (j < L.length) && !(ent L i).testBit j && !decide (i = j)) := by
  have h6 := hL.2.1
  have h64 := two_le h6
  have hp := two_pos L.length
  have he := ent_lt (hL.2.2 i hi).1
  have hi64 := two_le (n := i) (by omega)
  have hl := less_le (2 ^ L.length - 1) (ent L i)
  unfold oth
  rw [less_tb (by omega) hi64, less_tb (by omega) (by omega), Nat.testBit_two_pow_sub_one, Nat.testBit_two_pow]
theorem other_bt {L : List Int} (hL : IsGraph L) {i : Nat} (hi : i < L.length) (j : Nat) : bt (otherL L L.length) i j = 1 ↔ (j < L.length ∧ ¬ bt L i j = 1 ∧ i ≠ j) := by
  rw [bt_bit, bt_bit]
  have e : ent (otherL L L.length) i = oth L i := by
    unfold ent
    rw [other_ent L hi, Int.toNat_natCast]
  rw [e, oth_bit hL hi]
  simp [and_assoc]
theorem other_graph {L : List Int} (hL : IsGraph L) : IsGraph (otherL L L.length) := by
  have hl := otherL_length L L.length
  refine ⟨by rw [hl]; exact hL.1, by rw [hl]; exact hL.2.1, fun v hv => ?_⟩
  rw [hl] at hv
  refine ⟨?_, ?_, fun w hw => ?_⟩
  · unfold InR
    rw [hl, other_ent L hv]
    have := oth_le L v
    omega
  · have h1 := bt_le (otherL L L.length) v v
    refine Nat.le_antisymm (Nat.le_of_not_lt fun h2 => ?_) (Nat.zero_le _)
    have h3 : bt (otherL L L.length) v v = 1 := by omega
    exact ((other_bt hL hv v).1 h3).2.2 rfl
  · refine bt_eq ?_
    rw [other_bt hL hv, other_bt hL (show w < L.length by omega), bt_sym hL hv (show w < L.length by omega)]
    constructor
    · rintro ⟨a, b, c⟩; exact ⟨hv, b, fun e => c e.symm⟩
    · rintro ⟨a, b, c⟩; exact ⟨by omega, b, fun e => c e.symm⟩
end Go.Proofs.YtfhaeocgbihddaaDoor

/- The program's SetFree, SetFull, SetCover, SetWatch and SetCounts, and their methods. -/





namespace Go.Proofs.YtfhaeocgbihddaaDoor
open Go Go.RowKit
set_option linter.unusedVariables false
set_option maxRecDepth 100000

theorem sbL_of {n Q : Nat} (h6 : n ≤ 6) (hQ : Q + 1 = 2 ^ n) : sbL Q = allS n := by
  have h := sbL_all ⟨n, by omega⟩
  dsimp only at h
  rw [show 2 ^ n - 1 = Q by omega] at h
  exact h
theorem allS_length (n : Nat) (h6 : n ≤ 6) : (allS n).length ≤ 64 := by unfold allS; rw [List.length_range]; exact two_le h6
theorem sub64 {n Q s : Nat} (h6 : n ≤ 6) (hQ : Q + 1 = 2 ^ n) (hs : s &&& Q = s) : s < 2 ^ n ∧ s < 64 := by
  have := sub_le hs
  have := two_le h6
  omega

theorem free_fn (A : Option Addr) (c : Nat) (L : List Int) (hg : IsGraph L) (w : World) (h : Seen w A L) (hT : Tab w) :
    Calls Tryd.prog 30 #[.slice A L.length c] w (NumA w (mostN L)) := by
  have h6 := hg.2.1
  have ht := hT.lt
  have hp := two_pos L.length
  obtain ⟨Q, hQ⟩ : ∃ Q, Q + 1 = 2 ^ L.length := ⟨2 ^ L.length - 1, by omega⟩
  have hQ64 : Q < 32768 := by have := two_le h6; omega
  have HA := Lib.hid (fun w => all_any A L.length c Q h6 hQ w)
  have HS := Lib.hid (callsIn_wide.1 (sizes_in Q hQ64 54 (.slice A L.length c) (freeB L) w (enters_of Tryd.func54 (by kernel_rfl) rfl) (fun W s hb hs => isFree_fn A c L hg s (sub64 h6 hQ hs).2 W (h.below hb))))
  rw [sbL_of h6 hQ] at HS
  have hm : IsMax (szs (freeB L) (allS L.length)) (mostN L) := most_max L
  have hl : (szs (freeB L) (allS L.length)).length ≤ 40000 := Nat.le_trans (szs_length _ _) (Nat.le_trans (allS_length _ h6) (by decide))
  obtain ⟨zs, ez⟩ : ∃ zs, zs = szs (freeB L) (allS L.length) := ⟨_, rfl⟩
  have h15 : ∀ x ∈ zs, x ≤ 15 := by rw [ez]; exact szs_le
  rw [← ez] at HS hm hl
  obtain ⟨m, em⟩ : ∃ m, m = mostN L := ⟨_, rfl⟩
  rw [← em] at hm ⊢
  have HM := Lib.hid (fun A c w hs => slicesMax A c zs m hm h15 hl w hs)
  have hmf : ∀ (fn : Fn) (first cap : Array Value) (w : World), (Instr.makeFunc fn first cap).run Tryd.prog w = .ok (.func fn first cap) w := fun _ _ _ _ => rfl
  obtain ⟨n, hn⟩ : ∃ n, n = L.length := ⟨_, rfl⟩
  rw [← hn] at HA HS ⊢
  clear hg h hT h6 ht hp hQ hQ64 hm hl h15 ez em hn
  go_enter Tryd.func30, Tryd.ntmps30
  go_wp2_with fail
  refine (HA.out _).mono ?_
  rintro e w1 ⟨rfl, rfl⟩
  go_wp2_with fail
  refine HS.out.mono ?_
  rintro e w1 ⟨v1, rfl, r1, b1⟩
  obtain ⟨A1, c1, rfl, s1⟩ := r1.seen
  go_wp2_with fail
  refine (HM.out _ _ _ s1).mono ?_
  rintro e w2 ⟨rfl, rfl⟩
  go_wp2
  go_ret
  exact ⟨rfl, b1⟩

theorem cover_fn (A : Option Addr) (c : Nat) (L : List Int) (hg : IsGraph L) (w : World) (h : Seen w A L) (hT : Tab w) :
    Calls Tryd.prog 36 #[.slice A L.length c] w (NumA w (L.length - mostN L)) := by
  have h6 := hg.2.1
  have ht := hT.lt
  have hp := two_pos L.length
  obtain ⟨Q, hQ⟩ : ∃ Q, Q + 1 = 2 ^ L.length := ⟨2 ^ L.length - 1, by omega⟩
  have hQ64 : Q < 32768 := by have := two_le h6; omega
  have HA := Lib.hid (fun w => all_any A L.length c Q h6 hQ w)
  have HS := Lib.hid (callsIn_wide.1 (sizes_in Q hQ64 58 (.slice A L.length c) (coverB L) w (enters_of Tryd.func58 (by kernel_rfl) rfl) (fun W s hb hs => isCover_fn A c L hg s (sub64 h6 hQ hs).2 W (h.below hb))))
  rw [sbL_of h6 hQ] at HS
  have hm : IsMin (szs (coverB L) (allS L.length)) (L.length - mostN L) := (cover_min h6).2
  have hl : (szs (coverB L) (allS L.length)).length ≤ 40000 := Nat.le_trans (szs_length _ _) (Nat.le_trans (allS_length _ h6) (by decide))
  obtain ⟨zs, ez⟩ : ∃ zs, zs = szs (coverB L) (allS L.length) := ⟨_, rfl⟩
  have h15 : ∀ x ∈ zs, x ≤ 15 := by rw [ez]; exact szs_le
  rw [← ez] at HS hm hl
  obtain ⟨m, em⟩ : ∃ m, m = L.length - mostN L := ⟨_, rfl⟩
  rw [← em] at hm ⊢
  have HM := Lib.hid (fun A c w hs => slicesMin A c zs m hm h15 hl w hs)
  have hmf : ∀ (fn : Fn) (first cap : Array Value) (w : World), (Instr.makeFunc fn first cap).run Tryd.prog w = .ok (.func fn first cap) w := fun _ _ _ _ => rfl
  obtain ⟨n, hn⟩ : ∃ n, n = L.length := ⟨_, rfl⟩
  rw [← hn] at HA HS ⊢
  clear hg h hT h6 ht hp hQ hQ64 hm hl h15 ez em hn
  go_enter Tryd.func36, Tryd.ntmps36
  go_wp2_with fail
  refine (HA.out _).mono ?_
  rintro e w1 ⟨rfl, rfl⟩
  go_wp2_with fail
  refine HS.out.mono ?_
  rintro e w1 ⟨v1, rfl, r1, b1⟩
  obtain ⟨A1, c1, rfl, s1⟩ := r1.seen
  go_wp2_with fail
  refine (HM.out _ _ _ s1).mono ?_
  rintro e w2 ⟨rfl, rfl⟩
  go_wp2
  go_ret
  exact ⟨rfl, b1⟩

theorem watch_fn (A : Option Addr) (c : Nat) (L : List Int) (hg : IsGraph L) (w : World) (h : Seen w A L) (hT : Tab w) :
    Calls Tryd.prog 37 #[.slice A L.length c] w (NumA w (watchN L)) := by
  have h6 := hg.2.1
  have ht := hT.lt
  have hp := two_pos L.length
  obtain ⟨Q, hQ⟩ : ∃ Q, Q + 1 = 2 ^ L.length := ⟨2 ^ L.length - 1, by omega⟩
  have hQ64 : Q < 32768 := by have := two_le h6; omega
  have HA := Lib.hid (fun w => all_any A L.length c Q h6 hQ w)
  have HS := Lib.hid (callsIn_wide.1 (sizes_in Q hQ64 59 (.slice A L.length c) (watB L) w (enters_of Tryd.func59 (by kernel_rfl) rfl) (fun W s hb hs => callsIn_wide.1 (isWatching_in A c L hg s (sub64 h6 hQ hs).1 W (h.below hb) (hT.below hb ht)))))
  rw [sbL_of h6 hQ] at HS
  have hm : IsMin (szs (watB L) (allS L.length)) (watchN L) := (watch_min hg).2
  have hl : (szs (watB L) (allS L.length)).length ≤ 40000 := Nat.le_trans (szs_length _ _) (Nat.le_trans (allS_length _ h6) (by decide))
  obtain ⟨zs, ez⟩ : ∃ zs, zs = szs (watB L) (allS L.length) := ⟨_, rfl⟩
  have h15 : ∀ x ∈ zs, x ≤ 15 := by rw [ez]; exact szs_le
  rw [← ez] at HS hm hl
  obtain ⟨m, em⟩ : ∃ m, m = watchN L := ⟨_, rfl⟩
  rw [← em] at hm ⊢
  have HM := Lib.hid (fun A c w hs => slicesMin A c zs m hm h15 hl w hs)
  have hmf : ∀ (fn : Fn) (first cap : Array Value) (w : World), (Instr.makeFunc fn first cap).run Tryd.prog w = .ok (.func fn first cap) w := fun _ _ _ _ => rfl
  obtain ⟨n, hn⟩ : ∃ n, n = L.length := ⟨_, rfl⟩
  rw [← hn] at HA HS ⊢
  clear hg h hT h6 ht hp hQ hQ64 hm hl h15 ez em hn
  go_enter Tryd.func37, Tryd.ntmps37
  go_wp2_with fail
  refine (HA.out _).mono ?_
  rintro e w1 ⟨rfl, rfl⟩
  go_wp2_with fail
  refine HS.out.mono ?_
  rintro e w1 ⟨v1, rfl, r1, b1⟩
  obtain ⟨A1, c1, rfl, s1⟩ := r1.seen
  go_wp2_with fail
  refine (HM.out _ _ _ s1).mono ?_
  rintro e w2 ⟨rfl, rfl⟩
  go_wp2
  go_ret
  exact ⟨rfl, b1⟩

theorem full_fn (A : Option Addr) (c : Nat) (L : List Int) (hg : IsGraph L) (w : World) (h : Seen w A L) (hT : Tab w) :
    Calls Tryd.prog 35 #[.slice A L.length c] w (NumA w (mostN (otherL L L.length))) := by
  have ht := hT.lt
  have HO := Lib.hid (callsIn_wide.1 (implOther_in A c L hg w h hT))
  have hl := otherL_length L L.length
  obtain ⟨M, eM⟩ : ∃ M, M = otherL L L.length := ⟨_, rfl⟩
  have hM : IsGraph M := by rw [eM]; exact other_graph hg
  rw [← eM] at HO ⊢
  have HF := Lib.hid (fun A c w hs ht => free_fn A c M hM w hs ht)
  have HT := Lib.hid hT
  have HL := Lib.hid ht
  clear hg h hT hl eM hM ht
  go_enter Tryd.func35, Tryd.ntmps35
  go_wp2_with fail
  refine HO.out.mono ?_
  rintro e w1 ⟨v1, rfl, r1, b1⟩
  obtain ⟨A1, c1, rfl, s1⟩ := r1.seen
  go_wp2_with fail
  refine (HF.out _ _ _ s1 (HT.out.below b1 HL.out)).mono ?_
  rintro e w2 ⟨rfl, b2⟩
  go_wp2
  go_ret
  exact ⟨rfl, b1.trans (b2.mono b1.size)⟩

theorem implFr_yes (B : Nat) (v : Value) (L : List Int) (hg : IsGraph L) (w : World) (h : Row w B v L) (hT : Tab w) :
    Calls Tryd.prog 9 #[v] w (NumOkA w (mostN L) true) := by
  have ht := hT.lt
  have H1 := Lib.hid (asG_graph B v L hg w h hT)
  obtain ⟨A, c, rfl, hs⟩ := h.seen
  have H2 := Lib.hid (fun w1 (b : Below w.heap.size w w1) => free_fn A c L hg w1 (hs.below b) (hT.below b ht))
  obtain ⟨x, ex⟩ : ∃ x, x = mostN L := ⟨_, rfl⟩
  rw [← ex] at H2 ⊢
  clear hg h hs hT ht ex
  go_enter Tryd.func9, Tryd.ntmps9
  go_wp2_with fail
  go_enter Tryd.func29, Tryd.ntmps29
  go_wp2_with fail
  refine H1.out.mono ?_
  rintro e w1 ⟨rfl, b1⟩
  go_wp2_with fail
  refine (H2.out _ b1).mono ?_
  rintro e w2 ⟨rfl, b2⟩
  go_wp2
  go_ret2
  exact ⟨rfl, b1.trans (b2.mono b1.size)⟩
theorem implFr_no (B : Nat) (v : Value) (L : List Int) (hg : ¬ IsGraph L) (w : World) (h : Row w B v L) (hT : Tab w) :
    Calls Tryd.prog 9 #[v] w (NumOkA w 0 false) := by
  have H1 := Lib.hid (asG_none B v L hg w h hT)
  clear hg h
  go_enter Tryd.func9, Tryd.ntmps9
  go_wp2_with fail
  go_enter Tryd.func29, Tryd.ntmps29
  go_wp2_with fail
  refine H1.out.mono ?_
  rintro e w1 ⟨rfl, b1⟩
  go_wp2
  go_ret2
  exact ⟨rfl, b1⟩

theorem implFu_yes (B : Nat) (v : Value) (L : List Int) (hg : IsGraph L) (w : World) (h : Row w B v L) (hT : Tab w) :
    Calls Tryd.prog 12 #[v] w (NumOkA w (mostN (otherL L L.length)) true) := by
  have ht := hT.lt
  have H1 := Lib.hid (asG_graph B v L hg w h hT)
  obtain ⟨A, c, rfl, hs⟩ := h.seen
  have H2 := Lib.hid (fun w1 (b : Below w.heap.size w w1) => full_fn A c L hg w1 (hs.below b) (hT.below b ht))
  obtain ⟨x, ex⟩ : ∃ x, x = mostN (otherL L L.length) := ⟨_, rfl⟩
  rw [← ex] at H2 ⊢
  clear hg h hs hT ht ex
  go_enter Tryd.func12, Tryd.ntmps12
  go_wp2_with fail
  go_enter Tryd.func29, Tryd.ntmps29
  go_wp2_with fail
  refine H1.out.mono ?_
  rintro e w1 ⟨rfl, b1⟩
  go_wp2_with fail
  refine (H2.out _ b1).mono ?_
  rintro e w2 ⟨rfl, b2⟩
  go_wp2
  go_ret2
  exact ⟨rfl, b1.trans (b2.mono b1.size)⟩
theorem implFu_no (B : Nat) (v : Value) (L : List Int) (hg : ¬ IsGraph L) (w : World) (h : Row w B v L) (hT : Tab w) :
    Calls Tryd.prog 12 #[v] w (NumOkA w 0 false) := by
  have H1 := Lib.hid (asG_none B v L hg w h hT)
  clear hg h
  go_enter Tryd.func12, Tryd.ntmps12
  go_wp2_with fail
  go_enter Tryd.func29, Tryd.ntmps29
  go_wp2_with fail
  refine H1.out.mono ?_
  rintro e w1 ⟨rfl, b1⟩
  go_wp2
  go_ret2
  exact ⟨rfl, b1⟩

theorem implCo_yes (B : Nat) (v : Value) (L : List Int) (hg : IsGraph L) (w : World) (h : Row w B v L) (hT : Tab w) :
    Calls Tryd.prog 13 #[v] w (NumOkA w (L.length - mostN L) true) := by
  have ht := hT.lt
  have H1 := Lib.hid (asG_graph B v L hg w h hT)
  obtain ⟨A, c, rfl, hs⟩ := h.seen
  have H2 := Lib.hid (fun w1 (b : Below w.heap.size w w1) => cover_fn A c L hg w1 (hs.below b) (hT.below b ht))
  obtain ⟨x, ex⟩ : ∃ x, x = L.length - mostN L := ⟨_, rfl⟩
  rw [← ex] at H2 ⊢
  clear hg h hs hT ht ex
  go_enter Tryd.func13, Tryd.ntmps13
  go_wp2_with fail
  go_enter Tryd.func29, Tryd.ntmps29
  go_wp2_with fail
  refine H1.out.mono ?_
  rintro e w1 ⟨rfl, b1⟩
  go_wp2_with fail
  refine (H2.out _ b1).mono ?_
  rintro e w2 ⟨rfl, b2⟩
  go_wp2
  go_ret2
  exact ⟨rfl, b1.trans (b2.mono b1.size)⟩
theorem implCo_no (B : Nat) (v : Value) (L : List Int) (hg : ¬ IsGraph L) (w : World) (h : Row w B v L) (hT : Tab w) :
    Calls Tryd.prog 13 #[v] w (NumOkA w 0 false) := by
  have H1 := Lib.hid (asG_none B v L hg w h hT)
  clear hg h
  go_enter Tryd.func13, Tryd.ntmps13
  go_wp2_with fail
  go_enter Tryd.func29, Tryd.ntmps29
  go_wp2_with fail
  refine H1.out.mono ?_
  rintro e w1 ⟨rfl, b1⟩
  go_wp2
  go_ret2
  exact ⟨rfl, b1⟩

theorem implWa_yes (B : Nat) (v : Value) (L : List Int) (hg : IsGraph L) (w : World) (h : Row w B v L) (hT : Tab w) :
    Calls Tryd.prog 15 #[v] w (NumOkA w (watchN L) true) := by
  have ht := hT.lt
  have H1 := Lib.hid (asG_graph B v L hg w h hT)
  obtain ⟨A, c, rfl, hs⟩ := h.seen
  have H2 := Lib.hid (fun w1 (b : Below w.heap.size w w1) => watch_fn A c L hg w1 (hs.below b) (hT.below b ht))
  obtain ⟨x, ex⟩ : ∃ x, x = watchN L := ⟨_, rfl⟩
  rw [← ex] at H2 ⊢
  clear hg h hs hT ht ex
  go_enter Tryd.func15, Tryd.ntmps15
  go_wp2_with fail
  go_enter Tryd.func29, Tryd.ntmps29
  go_wp2_with fail
  refine H1.out.mono ?_
  rintro e w1 ⟨rfl, b1⟩
  go_wp2_with fail
  refine (H2.out _ b1).mono ?_
  rintro e w2 ⟨rfl, b2⟩
  go_wp2
  go_ret2
  exact ⟨rfl, b1.trans (b2.mono b1.size)⟩
theorem implWa_no (B : Nat) (v : Value) (L : List Int) (hg : ¬ IsGraph L) (w : World) (h : Row w B v L) (hT : Tab w) :
    Calls Tryd.prog 15 #[v] w (NumOkA w 0 false) := by
  have H1 := Lib.hid (asG_none B v L hg w h hT)
  clear hg h
  go_enter Tryd.func15, Tryd.ntmps15
  go_wp2_with fail
  go_enter Tryd.func29, Tryd.ntmps29
  go_wp2_with fail
  refine H1.out.mono ?_
  rintro e w1 ⟨rfl, b1⟩
  go_wp2
  go_ret2
  exact ⟨rfl, b1⟩
end Go.Proofs.YtfhaeocgbihddaaDoor

/- The model's free sets and the greatest of them. -/



namespace Go.Proofs.YtfhaeocgbihddaaDoor
open Go Go.RowKit
set_option linter.unusedVariables false
set_option maxRecDepth 100000

theorem min_nat2 (x y : Nat) : ((x : Int) < (y : Int) → max x y = y) ∧ (¬ (x : Int) < (y : Int) → max x y = x) := by omega
def FreeTo (L : List Int) (s k : Nat) : Prop := ∀ j, j < k → inS s j = true → ent L j &&& s = 0
theorem free_true {L : List Int} {s : Nat} (h : FreeTo L s L.length) : freeB L s = true := by
  refine List.all_eq_true.2 fun v hv => ?_
  rw [List.mem_range] at hv
  cases hi : inS s v with
  | false => rfl
  | true => rw [Bool.not_true, Bool.false_or, beq_iff_eq]; exact h v hv hi
theorem free_false {L : List Int} {s k : Nat} (hk : k < L.length) (hi : inS s k = true) (hne : ent L k &&& s ≠ 0) : freeB L s = false := by
  cases h : freeB L s with
  | false => rfl
  | true =>
    have h1 := List.all_eq_true.1 h k (List.mem_range.2 hk)
    rw [hi] at h1
    simp at h1
    exact absurd h1 hne
theorem free_to_succ {L : List Int} {s k : Nat} (h : FreeTo L s k) (h1 : inS s k = true → ent L k &&& s = 0) : FreeTo L s (k + 1) := fun j hj hi => by
  rcases Nat.lt_or_ge j k with hl | hl
  · exact h j hl hi
  · have e : j = k := by omega
    subst e
    exact h1 hi
theorem inS_bit {s k b : Nat} (eb : b = s / 2 ^ k % 2) : inS s k = decide (b = 1) := by
  rw [Bool.eq_iff_iff, inS_iff, decide_eq_true_eq, eb]

set_option maxHeartbeats 1000000 in
theorem specFree_seen (A : Option Addr) (c : Nat) (L : List Int) (hg : IsGraph L) (s : Nat) (hs : s < 64) (w : World) (h : Seen w A L) :
    Calls Tryd.prog 46 #[.slice A L.length c, .int .i64 s] w fun e w' => e = .returned (.bool (freeB L s)) ∧ w = w' := by
  have h1 := hg.1
  have h6 := hg.2.1
  obtain ⟨n, hn⟩ : ∃ n, n = L.length := ⟨_, rfl⟩
  have H : Hid (∀ k, k < n → ∃ b off, A = some ⟨b, off, none⟩ ∧ w.cell? ⟨b, off + k, none⟩ = some (.int .i64 (ent L k : Nat)) ∧ ent L k < 64) := Lib.hid fun k hk => by
    obtain ⟨b, off, a, _, hc⟩ := h k (by omega)
    have hin := (hg.2.2 k (by omega)).1
    rw [ent_int hin] at hc
    exact ⟨b, off, a, hc, Nat.lt_of_lt_of_le (ent_lt hin) (two_le h6)⟩
  have HT : Hid (FreeTo L s n → freeB L s = true) := Lib.hid (by rw [hn]; exact free_true)
  have HF : Hid (∀ k, k < n → inS s k = true → ent L k &&& s ≠ 0 → freeB L s = false) := Lib.hid (by rw [hn]; exact fun k hk hi hne => free_false hk hi hne)
  rw [← hn] at h1 h6 ⊢
  clear h hg hn
  go_enter Tryd.func46, Tryd.ntmps46
  go_wp2
  go_loop [5] (fun i => ∃ k : Nat, k ≤ n ∧ i = .int .i64 k ∧ Hid (FreeTo L s k)) (fun i => n - (intOf i).toNat)
  case atStart => exact ⟨0, Nat.zero_le _, rfl, Lib.hid fun j hj => absurd hj (by omega)⟩
  case round =>
    obtain ⟨k, hk, rfl, hf⟩ := hrel
    by_cases hlt : k < n
    · obtain ⟨b, off, rfl, hc, hX⟩ := H.out k hlt
      obtain ⟨t, et, ht, ft⟩ := and_facts s k (by omega)
      have hin := inS_bit et
      have hFk := HF.out k hlt
      obtain ⟨X, eX⟩ : ∃ X, X = ent L k := ⟨_, rfl⟩
      have hsucc : Hid ((inS s k = true → X &&& s = 0) → FreeTo L s (k + 1)) := Lib.hid (by rw [eX]; exact free_to_succ hf.out)
      rw [← eX] at hc hX hFk
      have hx := i64_and_nat X s (by omega) (by omega)
      obtain ⟨y, ey⟩ : ∃ y, y = X &&& s := ⟨_, rfl⟩
      rw [← ey] at hx hFk hsucc
      have hyl : y ≤ s := by rw [ey]; exact Nat.and_le_right
      have hk40 : k < 40 := by omega
      clear eX ey et
      rcases (show t = 0 ∨ t = 1 by omega) with rfl | rfl
      · have e0 : (((0 : Nat) : Int) == 1) = false := rfl
        have HN := Lib.hid (hsucc.out (by rw [hin]; simp))
        clear hFk hin hsucc
        go_wp2
        go_round
        case rel => exact ⟨k + 1, by omega, by go_num, HN⟩
        case measure => simp [intOf]; omega
      · by_cases hy : y = 0
        · have HN := Lib.hid (hsucc.out fun _ => hy)
          have e0 : ((y : Int) != 0) = false := by simp [hy]
          clear hFk hin hsucc hy
          go_wp2
          go_round
          case rel => exact ⟨k + 1, by omega, by go_num, HN⟩
          case measure => simp [intOf]; omega
        · have HN := Lib.hid (hFk (by rw [hin]; simp) hy)
          have e0 : ((y : Int) != 0) = true := by simp; omega
          clear hFk hin hsucc hy
          go_wp2
          go_ret
          exact ⟨by rw [HN.out]; rfl, rfl⟩
    · have hke : k = n := by omega
      subst hke
      have HN := Lib.hid (HT.out hf.out)
      go_wp2
      go_ret
      exact ⟨by rw [HN.out]; rfl, rfl⟩

/-- The greatest up to some set. -/
def mxTo (L : List Int) (t : Nat) : Nat := mx (freeB L) (List.range t)
theorem mxTo_succ (L : List Int) (t : Nat) : mxTo L (t + 1) = mxStep (freeB L) (mxTo L t) t := by unfold mxTo; rw [List.range_succ, mx_snoc]
set_option maxHeartbeats 1000000 in
theorem specMost_seen (A : Option Addr) (c : Nat) (L : List Int) (hg : IsGraph L) (w : World) (h : Seen w A L) :
    Calls Tryd.prog 32 #[.slice A L.length c] w fun e w' => e = .returned (.int .i64 (mostN L : Nat)) ∧ w = w' := by
  have h1 := hg.1
  have h6 := hg.2.1
  obtain ⟨P, Q, hP, hQ, hP64, s1, s2, _, _, _⟩ := shl_facts L.length h6
  have HF := Lib.hid (fun s hs => specFree_seen A c L hg s hs w h)
  have HM : Hid (mostN L = mxTo L P) := Lib.hid (by unfold mostN mxTo allS; rw [hP])
  have HS := Lib.hid (mxTo_succ L)
  have HL := Lib.hid (fun t => mx_le (freeB L) (List.range t))
  obtain ⟨n, hn⟩ : ∃ n, n = L.length := ⟨_, rfl⟩
  rw [← hn] at h1 h6 s1 s2 HF ⊢
  clear h hg hn hP hQ s2
  rw [HM.out]
  go_enter Tryd.func32, Tryd.ntmps32
  go_wp2
  go_loop [3, 4] (fun m i => ∃ t : Nat, t ≤ P ∧ i = .int .i64 t ∧ m = .int .i64 (mxTo L t : Nat)) (fun _ i => P - (intOf i).toNat)
  case atStart => exact ⟨0, Nat.zero_le _, rfl, rfl⟩
  case round =>
    obtain ⟨t, ht, rfl, rfl⟩ := hrel
    have hl : mxTo L t ≤ 15 := HL.out t
    by_cases hlt : t < P
    · have hst := HS.out t
      unfold mxStep at hst
      have F := HF.out t (by omega)
      have G := Lib.hid (size_code t (by omega) w)
      have hp := pcf_le 15 t
      obtain ⟨q, eq⟩ : ∃ q, q = pcf 15 t := ⟨_, rfl⟩
      obtain ⟨m, em⟩ : ∃ m, m = mxTo L t := ⟨_, rfl⟩
      obtain ⟨f, ef⟩ : ∃ f, f = freeB L t := ⟨_, rfl⟩
      rw [← ef] at F hst
      rw [← em] at hl hst ⊢
      rw [← eq] at G hst hp
      have FF := Lib.hid F
      have hmx := min_nat2 m q
      clear F ef em eq
      cases f with
      | false =>
        have ST := Lib.hid (hst.trans (if_neg (by simp)))
        clear hst
        go_wp2_with fail
        refine FF.out.mono ?_
        rintro e w1 ⟨rfl, rfl⟩
        go_wp2
        go_round
        case rel => exact ⟨t + 1, by omega, by go_num, by rw [ST.out]⟩
        case measure => simp [intOf]; omega
      | true =>
        have ST := Lib.hid (hst.trans (if_pos rfl))
        clear hst
        go_wp2_with fail
        refine FF.out.mono ?_
        rintro e w1 ⟨rfl, rfl⟩
        go_wp2_with fail
        refine G.out.mono ?_
        rintro e w1 ⟨rfl, rfl⟩
        go_wp2
        go_round
        case rel => exact ⟨t + 1, by omega, by go_num, by rw [ST.out]; congr 1; split <;> omega⟩
        case measure => simp [intOf]; omega
    · have hke : t = P := by omega
      subst hke
      go_wp2
      go_ret
      exact ⟨rfl, rfl⟩
end Go.Proofs.YtfhaeocgbihddaaDoor

/- The model's SetFree. -/



namespace Go.Proofs.YtfhaeocgbihddaaDoor
open Go Go.RowKit
set_option linter.unusedVariables false
set_option maxRecDepth 100000

theorem specFr_no (B : Nat) (v : Value) (L : List Int) (hg : ¬ IsGraph L) (w : World) (h : Row w B v L) :
    Calls Tryd.prog 10 #[v] w (NumOkA w 0 false) := by
  have H1 := Lib.hid (specIn_any B v L false ⟨fun h => (by cases h), fun h => absurd h hg⟩ w h)
  obtain ⟨A, c, rfl, hs⟩ := h.seen
  clear hg h
  go_enter Tryd.func10, Tryd.ntmps10
  go_wp2_with fail
  refine H1.out.mono ?_
  rintro e w1 ⟨rfl, d, rfl⟩
  go_wp2
  go_ret2
  exact ⟨rfl, below_drewN (Below.refl _ w) d⟩
theorem specFr_yes (B : Nat) (v : Value) (L : List Int) (hg : IsGraph L) (w : World) (h : Row w B v L) :
    Calls Tryd.prog 10 #[v] w (NumOkA w (mostN L) true) := by
  have H1 := Lib.hid (specIn_any B v L true ⟨fun _ => hg, fun _ => rfl⟩ w h)
  obtain ⟨A, c, rfl, hs⟩ := h.seen
  have H2 := Lib.hid (fun w hs => specMost_seen A c L hg w hs)
  have HS := Lib.hid (fun d => hs.below (below_drewN (Below.refl _ _) d))
  clear hg h hs
  go_enter Tryd.func10, Tryd.ntmps10
  go_wp2_with fail
  refine H1.out.mono ?_
  rintro e w1 ⟨rfl, d, rfl⟩
  go_wp2_with fail
  refine (H2.out _ (HS.out d)).mono ?_
  rintro e w2 ⟨rfl, rfl⟩
  go_wp2
  go_ret2
  exact ⟨rfl, below_drewN (Below.refl _ w) d⟩
end Go.Proofs.YtfhaeocgbihddaaDoor
