/- Free sets, covers, watching sets: as the program and as the model tell them. Plain mathematics. -/
import Derived.Test.YtcblcifnpgmibaaDoorSbMath
import Derived.Test.YtcblcifnpgmibaaDoorBaseA
namespace Go.Proofs.YtcblcifnpgmibaaDoor
open Go Go.RowKit
set_option linter.unusedVariables false
set_option maxRecDepth 100000

theorem tb (x k : Nat) : (x / 2 ^ k % 2 = 1) ↔ x.testBit k = true := by rw [Nat.testBit_eq_decide_div_mod_eq, decide_eq_true_eq]
/-- A set has a node. -/
def inS (s v : Nat) : Bool := s.testBit v
theorem inS_iff {s v : Nat} : inS s v = true ↔ s / 2 ^ v % 2 = 1 := (tb s v).symm
theorem ends_iff (s a b : Nat) : s &&& (2 ^ a ||| 2 ^ b) = (2 ^ a ||| 2 ^ b) ↔ (inS s a = true ∧ inS s b = true) := by
  constructor
  · intro h
    have h1 := congrArg (fun x => x.testBit a) h
    have h2 := congrArg (fun x => x.testBit b) h
    simp only [Nat.testBit_and, Nat.testBit_or, Nat.testBit_two_pow_self, Bool.true_or, Bool.or_true, Bool.and_true] at h1 h2
    exact ⟨h1, h2⟩
  · rintro ⟨h1, h2⟩
    refine Nat.eq_of_testBit_eq fun i => ?_
    rw [Nat.testBit_and, Nat.testBit_or, Nat.testBit_two_pow, Nat.testBit_two_pow]
    by_cases ha : a = i
    · subst ha; unfold inS at h1; rw [h1]; simp
    · by_cases hb : b = i
      · subst hb; unfold inS at h2; rw [h2]; simp
      · simp [ha, hb]

/-- The model's free sets. -/
def freeB (L : List Int) (s : Nat) : Bool := (List.range L.length).all fun v => !(inS s v) || ent L v &&& s == 0
theorem meet_iff {L : List Int} {v s : Nat} : ent L v &&& s ≠ 0 ↔ ∃ w, bt L v w = 1 ∧ inS s w = true := by
  constructor
  · intro h
    obtain ⟨w, hw⟩ := Nat.exists_testBit_of_ne_zero h
    rw [Nat.testBit_and, Bool.and_eq_true] at hw
    exact ⟨w, (tb _ _).2 hw.1, hw.2⟩
  · rintro ⟨w, h1, h2⟩ h0
    have h3 := congrArg (fun x => x.testBit w) h0
    simp only [Nat.testBit_and, Nat.zero_testBit] at h3
    have h4 : (ent L v).testBit w = true := (tb _ _).1 h1
    unfold inS at h2
    rw [h4, h2] at h3
    cases h3
theorem upto_all (n : Nat) : ∀ a b, a < b → b < n → (a, b) ∈ rows n := by
  intro a b h1 h2
  simp only [rows, List.mem_flatMap, List.mem_range, List.mem_map]
  exact ⟨b, h2, a, h1, rfl⟩
theorem bt_lt {L : List Int} (hg : IsGraph L) {v w : Nat} (hv : v < L.length) (h : bt L v w = 1) : w < L.length := by
  have h1 := ent_lt (hg.2.2 v hv).1
  have h2 : (ent L v).testBit w = true := (tb _ _).1 h
  refine Nat.lt_of_not_le fun hl => ?_
  rw [Nat.testBit_lt_two_pow (Nat.lt_of_lt_of_le h1 (Nat.pow_le_pow_right (by omega) hl))] at h2
  cases h2
/-- The model's free sets are those with no edge in them. -/
theorem free_iff {L : List Int} (hg : IsGraph L) (s : Nat) : freeB L s = true ↔ ∀ p ∈ edgesIn L (rows L.length), ¬ (s &&& (2 ^ p.1 ||| 2 ^ p.2) = (2 ^ p.1 ||| 2 ^ p.2)) := by
  constructor
  · intro h p hp hin
    unfold edgesIn at hp
    rw [List.mem_filter] at hp
    obtain ⟨h1, h2⟩ := hp
    obtain ⟨h3, h4⟩ := rows_mem _ p h1
    rw [ends_iff] at hin
    have h5 := List.all_eq_true.1 h p.1 (List.mem_range.2 (by omega))
    rw [hin.1] at h5
    simp at h5 h2
    exact meet_iff.2 ⟨p.2, h2, hin.2⟩ h5
  · intro h
    refine List.all_eq_true.2 fun v hv => ?_
    rw [List.mem_range] at hv
    cases hi : inS s v with
    | false => rfl
    | true =>
      rw [Bool.not_true, Bool.false_or, beq_iff_eq]
      refine Classical.byContradiction fun hne => ?_
      obtain ⟨w, h1, h2⟩ := meet_iff.1 hne
      have hw := bt_lt hg hv h1
      have hvw : v ≠ w := fun e => by subst e; have := (hg.2.2 v hv).2.1; omega
      rcases Nat.lt_or_ge v w with hl | hl
      · refine h (v, w) ?_ ((ends_iff _ _ _).2 ⟨hi, h2⟩)
        unfold edgesIn
        rw [List.mem_filter]
        exact ⟨upto_all _ _ _ hl hw, by simpa using h1⟩
      · refine h (w, v) ?_ ((ends_iff _ _ _).2 ⟨h2, hi⟩)
        unfold edgesIn
        rw [List.mem_filter]
        refine ⟨upto_all _ _ _ (by omega) hv, ?_⟩
        have := (hg.2.2 v hv).2.2 w (by omega)
        simp
        omega
/-- The edges within a set, packed, as the program finds them. -/
def plN (p : Nat × Nat) : Nat := p.2 * (p.2 - 1) / 2 + p.1
def wthStep (s E : Nat) (p : Nat × Nat) : Nat := if s &&& (2 ^ p.1 ||| 2 ^ p.2) = (2 ^ p.1 ||| 2 ^ p.2) then E ||| 2 ^ plN p else E
def wth (s : Nat) (es : List (Nat × Nat)) : Nat := es.foldl (wthStep s) 0
theorem wth_snoc (s : Nat) (es : List (Nat × Nat)) (p : Nat × Nat) : wth s (es ++ [p]) = wthStep s (wth s es) p := by simp [wth]
theorem wth_zero (s : Nat) (es : List (Nat × Nat)) : wth s es = 0 ↔ ∀ p ∈ es, ¬ (s &&& (2 ^ p.1 ||| 2 ^ p.2) = (2 ^ p.1 ||| 2 ^ p.2)) := by
  induction es using snoc_ind with
  | h0 => simp [wth]
  | h1 l x ih =>
    rw [wth_snoc]
    unfold wthStep
    split
    · rename_i hx
      constructor
      · intro h0
        have h1 := congrArg (fun y => y.testBit (plN x)) h0
        simp [Nat.testBit_or, Nat.testBit_two_pow_self] at h1
      · intro h
        exact absurd hx (h x (by simp))
    · rename_i hx
      rw [ih]
      constructor
      · intro h p hp
        rcases List.mem_append.1 hp with hp | hp
        · exact h p hp
        · simp at hp; rw [hp]; exact hx
      · exact fun h p hp => h p (by simp [hp])
theorem free_wth {L : List Int} (hg : IsGraph L) (s : Nat) : (wth s (edgesIn L (rows L.length)) == 0) = freeB L s := by
  have h1 := free_iff hg s
  have h2 := wth_zero s (edgesIn L (rows L.length))
  rw [← h2] at h1
  rw [Bool.eq_iff_iff, beq_iff_eq]
  exact h1.symm
theorem plN_lt {n : Nat} (hn : n ≤ 6) {p : Nat × Nat} (h : p ∈ rows n) : plN p < 15 := by
  have : ∀ n : Fin 7, ∀ p ∈ rows n.val, plN p < 15 := by decide
  exact this ⟨n, by omega⟩ p h
theorem wth_lt {n s : Nat} (hn : n ≤ 6) {es : List (Nat × Nat)} (h : ∀ p ∈ es, p ∈ rows n) : wth s es < 32768 := by
  induction es using snoc_ind with
  | h0 => show 0 < 32768; decide
  | h1 l x ih =>
    rw [wth_snoc]
    unfold wthStep
    have h1 := ih fun p hp => h p (by simp [hp])
    split
    · exact Nat.or_lt_two_pow (n := 15) h1 (Nat.pow_lt_pow_right (by omega) (plN_lt hn (h x (by simp))))
    · exact h1

/-! ### greatest and least -/
def IsMax (l : List Nat) (m : Nat) : Prop := m ∈ l ∧ ∀ x ∈ l, x ≤ m
def IsMin (l : List Nat) (m : Nat) : Prop := m ∈ l ∧ ∀ x ∈ l, m ≤ x
/-- The sizes of the sets that fit. -/
def szs (P : Nat → Bool) (ss : List Nat) : List Nat := (ss.filter P).map (pcf 15)
theorem szs_snoc (P : Nat → Bool) (ss : List Nat) (s : Nat) : szs P (ss ++ [s]) = szs P ss ++ (if P s = true then [pcf 15 s] else []) := by
  unfold szs
  rw [List.filter_append, List.map_append]
  cases h : P s <;> simp [h]
theorem szs_mem {P : Nat → Bool} {ss : List Nat} {m : Nat} : m ∈ szs P ss ↔ ∃ s ∈ ss, P s = true ∧ pcf 15 s = m := by
  unfold szs
  rw [List.mem_map]
  constructor
  · rintro ⟨s, h1, h2⟩; rw [List.mem_filter] at h1; exact ⟨s, h1.1, h1.2, h2⟩
  · rintro ⟨s, h1, h2, h3⟩; exact ⟨s, List.mem_filter.2 ⟨h1, h2⟩, h3⟩
theorem szs_le {P : Nat → Bool} {ss : List Nat} : ∀ x ∈ szs P ss, x ≤ 15 := by
  intro x hx
  obtain ⟨s, _, _, rfl⟩ := szs_mem.1 hx
  exact pcf_le _ _
theorem szs_length (P : Nat → Bool) (ss : List Nat) : (szs P ss).length ≤ ss.length := by
  unfold szs
  rw [List.length_map]
  exact List.length_filter_le _ _
def mxStep (P : Nat → Bool) (m s : Nat) : Nat := if P s = true then max m (pcf 15 s) else m
def mnStep (P : Nat → Bool) (m s : Nat) : Nat := if P s = true then min m (pcf 15 s) else m
def mx (P : Nat → Bool) (ss : List Nat) : Nat := ss.foldl (mxStep P) 0
def mn (P : Nat → Bool) (m : Nat) (ss : List Nat) : Nat := ss.foldl (mnStep P) m
theorem mx_snoc (P : Nat → Bool) (ss : List Nat) (s : Nat) : mx P (ss ++ [s]) = mxStep P (mx P ss) s := by simp [mx]
theorem mn_snoc (P : Nat → Bool) (m : Nat) (ss : List Nat) (s : Nat) : mn P m (ss ++ [s]) = mnStep P (mn P m ss) s := by simp [mn]
theorem mx_facts (P : Nat → Bool) (ss : List Nat) : (mx P ss = 0 ∨ mx P ss ∈ szs P ss) ∧ ∀ x ∈ szs P ss, x ≤ mx P ss := by
  induction ss using snoc_ind with
  | h0 => simp [mx, szs]
  | h1 l s ih =>
    obtain ⟨h1, h2⟩ := ih
    rw [mx_snoc, szs_snoc]
    unfold mxStep
    cases hp : P s with
    | false => simp only [Bool.false_eq_true, if_false, List.append_nil]; exact ⟨h1, h2⟩
    | true =>
      simp only [if_true]
      refine ⟨?_, ?_⟩
      · rcases Nat.le_total (mx P l) (pcf 15 s) with hl | hl
        · rw [Nat.max_eq_right hl]; exact .inr (by simp)
        · rw [Nat.max_eq_left hl]
          rcases h1 with h | h
          · exact .inl h
          · exact .inr (List.mem_append_left _ h)
      · intro x hx
        rcases List.mem_append.1 hx with hx | hx
        · exact Nat.le_trans (h2 x hx) (Nat.le_max_left _ _)
        · simp at hx; rw [hx]; exact Nat.le_max_right _ _
theorem mn_facts (P : Nat → Bool) (m : Nat) (ss : List Nat) : (mn P m ss = m ∨ mn P m ss ∈ szs P ss) ∧ mn P m ss ≤ m ∧ ∀ x ∈ szs P ss, mn P m ss ≤ x := by
  induction ss using snoc_ind with
  | h0 => simp [mn, szs]
  | h1 l s ih =>
    obtain ⟨h1, h3, h2⟩ := ih
    rw [mn_snoc, szs_snoc]
    unfold mnStep
    cases hp : P s with
    | false => simp only [Bool.false_eq_true, if_false, List.append_nil]; exact ⟨h1, h3, h2⟩
    | true =>
      simp only [if_true]
      refine ⟨?_, Nat.le_trans (Nat.min_le_left _ _) h3, ?_⟩
      · rcases Nat.le_total (mn P m l) (pcf 15 s) with hl | hl
        · rw [Nat.min_eq_left hl]
          rcases h1 with h | h
          · exact .inl h
          · exact .inr (List.mem_append_left _ h)
        · rw [Nat.min_eq_right hl]; exact .inr (by simp)
      · intro x hx
        rcases List.mem_append.1 hx with hx | hx
        · exact Nat.le_trans (Nat.min_le_left _ _) (h2 x hx)
        · simp at hx; rw [hx]; exact Nat.min_le_right _ _
theorem mx_le (P : Nat → Bool) (ss : List Nat) : mx P ss ≤ 15 := by
  rcases (mx_facts P ss).1 with h | h
  · omega
  · exact szs_le _ h

/-! ### free sets and covers -/
def allS (n : Nat) : List Nat := List.range (2 ^ n)
/-- The greatest number of nodes of a free set. -/
def mostN (L : List Int) : Nat := mx (freeB L) (allS L.length)
theorem free_none (L : List Int) : freeB L 0 = true := by
  unfold freeB inS
  simp
theorem most_max (L : List Int) : IsMax (szs (freeB L) (allS L.length)) (mostN L) := by
  obtain ⟨h1, h2⟩ := mx_facts (freeB L) (allS L.length)
  refine ⟨?_, h2⟩
  rcases h1 with h | h
  · show mx _ _ ∈ _
    rw [h]
    exact szs_mem.2 ⟨0, List.mem_range.2 Nat.one_le_two_pow, free_none L, pcf_zero _⟩
  · exact h
/-- The nodes outside a set, as the program finds them. -/
def outS (N s : Nat) : Nat := N &&& (18446744073709551615 - s)
def outOk (n s : Nat) : Bool := !(decide (s < 2 ^ n)) || (decide (outS (2 ^ n - 1) s = 2 ^ n - 1 - s) && decide (pcf 15 (2 ^ n - 1 - s) + pcf 15 s = n))
theorem out_all : ∀ n : Fin 7, ∀ s : Fin 64, outOk n.val s.val = true := by decide +kernel
theorem out_facts {n s : Nat} (hn : n ≤ 6) (hs : s < 2 ^ n) : outS (2 ^ n - 1) s = 2 ^ n - 1 - s ∧ pcf 15 (2 ^ n - 1 - s) + pcf 15 s = n := by
  have h64 := two_le hn
  have h := out_all ⟨n, by omega⟩ ⟨s, by omega⟩
  unfold outOk at h
  dsimp only at h
  rw [decide_eq_true hs, Bool.not_true, Bool.false_or, Bool.and_eq_true, decide_eq_true_eq, decide_eq_true_eq] at h
  exact h
def coverB (L : List Int) (s : Nat) : Bool := freeB L (outS (2 ^ L.length - 1) s)
theorem cover_min {L : List Int} (hn : L.length ≤ 6) : mostN L ≤ L.length ∧ IsMin (szs (coverB L) (allS L.length)) (L.length - mostN L) := by
  obtain ⟨h1, h2⟩ := most_max L
  obtain ⟨t, ht, hf, hp⟩ := szs_mem.1 h1
  have hp2 := two_pos L.length
  have ht' : t < 2 ^ L.length := List.mem_range.1 ht
  obtain ⟨o1, o2⟩ := out_facts hn ht'
  refine ⟨by omega, ?_, ?_⟩
  · refine szs_mem.2 ⟨2 ^ L.length - 1 - t, List.mem_range.2 (by omega), ?_, by omega⟩
    obtain ⟨o3, _⟩ := out_facts hn (show 2 ^ L.length - 1 - t < 2 ^ L.length by omega)
    unfold coverB
    rw [o3, show 2 ^ L.length - 1 - (2 ^ L.length - 1 - t) = t by omega]
    exact hf
  · intro x hx
    obtain ⟨s, hs, hc, rfl⟩ := szs_mem.1 hx
    have hs' : s < 2 ^ L.length := List.mem_range.1 hs
    obtain ⟨o3, o4⟩ := out_facts hn hs'
    unfold coverB at hc
    rw [o3] at hc
    have := h2 _ (szs_mem.2 ⟨2 ^ L.length - 1 - s, List.mem_range.2 (by omega), hc, rfl⟩)
    omega

/-! ### watching sets -/
def metStep (L : List Int) (s m v : Nat) : Nat := if inS s v = true then m ||| ent L v else m
/-- The nodes that are met up to some place. -/
def metTo (L : List Int) (s k : Nat) : Nat := (List.range k).foldl (metStep L s) s
theorem metTo_succ (L : List Int) (s k : Nat) : metTo L s (k + 1) = metStep L s (metTo L s k) k := by simp [metTo, List.range_succ]
def watB (L : List Int) (s : Nat) : Bool := metTo L s L.length == 2 ^ L.length - 1
theorem metTo_lt {L : List Int} (hg : IsGraph L) {s : Nat} (hs : s < 2 ^ L.length) (k : Nat) (hk : k ≤ L.length) : metTo L s k < 2 ^ L.length := by
  induction k with
  | zero => exact hs
  | succ k ih =>
    rw [metTo_succ]
    unfold metStep
    split
    · exact Nat.or_lt_two_pow (ih (by omega)) (ent_lt (hg.2.2 k (by omega)).1)
    · exact ih (by omega)
theorem metTo_has {L : List Int} {s : Nat} (k i : Nat) (h : s.testBit i = true) : (metTo L s k).testBit i = true := by
  induction k with
  | zero => exact h
  | succ k ih =>
    rw [metTo_succ]
    unfold metStep
    split
    · rw [Nat.testBit_or, ih, Bool.true_or]
    · exact ih
theorem wat_all {L : List Int} (hg : IsGraph L) : watB L (2 ^ L.length - 1) = true := by
  unfold watB
  rw [beq_iff_eq]
  have hp := two_pos L.length
  have hl := metTo_lt hg (s := 2 ^ L.length - 1) (by omega) L.length (Nat.le_refl _)
  refine Nat.eq_of_testBit_eq fun i => ?_
  by_cases hi : i < L.length
  · have h1 : (2 ^ L.length - 1).testBit i = true := by rw [Nat.testBit_two_pow_sub_one]; simpa using hi
    rw [metTo_has _ _ h1, h1]
  · have e : 2 ^ L.length ≤ 2 ^ i := Nat.pow_le_pow_right (by omega) (by omega)
    rw [Nat.testBit_lt_two_pow (by omega), Nat.testBit_lt_two_pow (by omega)]
def watchN (L : List Int) : Nat := mn (watB L) L.length (allS L.length)
theorem watch_min {L : List Int} (hg : IsGraph L) : watchN L ≤ 6 ∧ IsMin (szs (watB L) (allS L.length)) (watchN L) := by
  obtain ⟨h1, h3, h2⟩ := mn_facts (watB L) L.length (allS L.length)
  have hp := two_pos L.length
  refine ⟨Nat.le_trans h3 hg.2.1, ?_, h2⟩
  rcases h1 with h | h
  · show mn _ _ _ ∈ _
    rw [h]
    obtain ⟨_, o⟩ := out_facts hg.2.1 (show 2 ^ L.length - 1 < 2 ^ L.length by omega)
    refine szs_mem.2 ⟨2 ^ L.length - 1, List.mem_range.2 (by omega), wat_all hg, ?_⟩
    rw [Nat.sub_self, pcf_zero] at o
    omega
  · exact h

/-! ### numbers of free sets -/
def cntStep (l : List Nat) (k : Nat) : List Nat := l.set k (l[k]?.getD 0 + 1)
/-- Some sizes counted. -/
def cntR (m : Nat) (ks : List Nat) : List Nat := ks.foldl cntStep (List.replicate m 0)
theorem cntR_snoc (m : Nat) (ks : List Nat) (k : Nat) : cntR m (ks ++ [k]) = cntStep (cntR m ks) k := by simp [cntR]
theorem cntR_length (m : Nat) (ks : List Nat) : (cntR m ks).length = m := by
  induction ks using snoc_ind with
  | h0 => simp [cntR]
  | h1 l x ih => rw [cntR_snoc]; unfold cntStep; rw [List.length_set, ih]
theorem cntR_le (m : Nat) (ks : List Nat) (i : Nat) : (cntR m ks)[i]?.getD 0 ≤ ks.length := by
  induction ks using snoc_ind with
  | h0 =>
    unfold cntR
    simp only [List.foldl_nil, List.length_nil, List.getElem?_replicate]
    split <;> simp
  | h1 l x ih =>
    rw [cntR_snoc, List.length_append]
    unfold cntStep
    rw [List.getElem?_set]
    split
    · rename_i e
      subst e
      split
      · simp; omega
      · simp
    · omega
def countsL (L : List Int) : List Int := ints (cntR (mostN L + 1) (szs (freeB L) (allS L.length)))
end Go.Proofs.YtcblcifnpgmibaaDoor
