/- Matchings: sets of edges with two nodes for each. Plain mathematics. -/
import Derived.Test.YtfhaeocgbihddaaDoorBaseS
namespace Go.Proofs.YtfhaeocgbihddaaDoor
open Go Go.RowKit
set_option linter.unusedVariables false
set_option maxRecDepth 100000

theorem pcf_or (f x y : Nat) : pcf f (x ||| y) + pcf f (x &&& y) = pcf f x + pcf f y := by
  induction f generalizing x y with
  | zero => rfl
  | succ f ih =>
    show (x ||| y) % 2 + pcf f ((x ||| y) / 2) + ((x &&& y) % 2 + pcf f ((x &&& y) / 2)) = x % 2 + pcf f (x / 2) + (y % 2 + pcf f (y / 2))
    have h1 : (x ||| y) / 2 = x / 2 ||| y / 2 := Nat.or_div_two
    have h2 : (x &&& y) / 2 = x / 2 &&& y / 2 := Nat.and_div_two
    have h3 := ih (x / 2) (y / 2)
    have h4 := Nat.or_mod_two_eq_one (a := x) (b := y)
    have h5 := Nat.and_mod_two_eq_one (a := x) (b := y)
    rw [h1, h2]
    omega
theorem pcf_pos {f x : Nat} (hx : x < 2 ^ f) (h : pcf f x = 0) : x = 0 := by
  induction f generalizing x with
  | zero => simpa using hx
  | succ f ih =>
    have h1 : x % 2 + pcf f (x / 2) = 0 := h
    have h2 := ih (x := x / 2) (by rw [Nat.pow_succ] at hx; omega) (by omega)
    omega
theorem pcf_count {f m E : Nat} (hm : m ≤ f) (hE : E < 2 ^ m) : pcf f E = ((List.range m).filter (fun k => E.testBit k)).length := by
  have h : ∀ m, m ≤ f → pcf f (E % 2 ^ m) = ((List.range m).filter (fun k => E.testBit k)).length := fun m => by
    induction m with
    | zero => intro _; rw [Nat.pow_zero, Nat.mod_one]; simpa using pcf_zero f
    | succ m ih =>
      intro hm
      have h1 := Nat.mod_pow_succ (b := 2) (x := E) (k := m)
      rw [List.range_succ, List.filter_append, List.length_append, ← ih (by omega), h1, Nat.mul_comm (2 ^ m), pcf_add f m (E % 2 ^ m) (E / 2 ^ m % 2) (by omega) (Nat.mod_lt _ (Nat.two_pow_pos m)) (by omega)]
      have ht := tb E m
      by_cases hb : E.testBit m = true
      · have := ht.2 hb
        simp [hb, this]
      · have h2 : ¬ E / 2 ^ m % 2 = 1 := fun h => hb (ht.1 h)
        have h3 : E / 2 ^ m % 2 = 0 := by omega
        rw [h3]
        simp [hb]
  have h2 := h m hm
  rwa [Nat.mod_eq_of_lt hE] at h2

/-- The ePr of a pair; the nodes, the places of some pairs. -/
def ePr (p : Nat × Nat) : Nat := 2 ^ p.1 ||| 2 ^ p.2
def nd : List (Nat × Nat) → Nat
  | [] => 0
  | e :: es => ePr e ||| nd es
def st : List (Nat × Nat) → Nat
  | [] => 0
  | e :: es => 2 ^ plN e ||| st es
theorem nd_bit (es : List (Nat × Nat)) (i : Nat) : (nd es).testBit i = true ↔ ∃ e ∈ es, (ePr e).testBit i = true := by
  induction es with
  | nil => simp [nd]
  | cons e es ih =>
    show (ePr e ||| nd es).testBit i = true ↔ _
    rw [Nat.testBit_or, Bool.or_eq_true, ih]
    constructor
    · rintro (h | ⟨f, h1, h2⟩)
      · exact ⟨e, by simp, h⟩
      · exact ⟨f, by simp [h1], h2⟩
    · rintro ⟨f, h1, h2⟩
      rcases List.mem_cons.1 h1 with rfl | h1
      · exact .inl h2
      · exact .inr ⟨f, h1, h2⟩
theorem st_bit (es : List (Nat × Nat)) (i : Nat) : (st es).testBit i = true ↔ ∃ e ∈ es, plN e = i := by
  induction es with
  | nil => simp [st]
  | cons e es ih =>
    show (2 ^ plN e ||| st es).testBit i = true ↔ _
    rw [Nat.testBit_or, Bool.or_eq_true, ih, Nat.testBit_two_pow, decide_eq_true_eq]
    constructor
    · rintro (h | ⟨f, h1, h2⟩)
      · exact ⟨e, by simp, h⟩
      · exact ⟨f, by simp [h1], h2⟩
    · rintro ⟨f, h1, h2⟩
      rcases List.mem_cons.1 h1 with rfl | h1
      · exact .inl h2
      · exact .inr ⟨f, h1, h2⟩
theorem ends_bit (a b i : Nat) : (ePr (a, b)).testBit i = true ↔ (i = a ∨ i = b) := by
  unfold ePr
  rw [Nat.testBit_or, Nat.testBit_two_pow, Nat.testBit_two_pow, Bool.or_eq_true, decide_eq_true_eq, decide_eq_true_eq]
  constructor
  · rintro (h | h)
    · exact .inl h.symm
    · exact .inr h.symm
  · rintro (h | h)
    · exact .inl h.symm
    · exact .inr h.symm
/-- Pairs of nodes below six. -/
def Prs (es : List (Nat × Nat)) : Prop := ∀ e ∈ es, e.1 < e.2 ∧ e.2 < 6
theorem ends_two {e : Nat × Nat} (h : e.1 < e.2 ∧ e.2 < 6) : pcf 15 (ePr e) = 2 ∧ ePr e < 64 := by
  have h1 : ∀ b : Fin 6, ∀ a : Fin 6, a.val < b.val → pcf 15 (2 ^ a.val ||| 2 ^ b.val) = 2 ∧ 2 ^ a.val ||| 2 ^ b.val < 64 := by decide
  exact h1 ⟨e.2, h.2⟩ ⟨e.1, by omega⟩ h.1
theorem nd_lt {es : List (Nat × Nat)} (h : Prs es) : nd es < 64 := by
  induction es with
  | nil => show 0 < 64; decide
  | cons e es ih => exact Nat.or_lt_two_pow (n := 6) (ends_two (h e (by simp))).2 (ih fun f hf => h f (by simp [hf]))
/-- No two of some pairs have a common node. -/
def Apart (es : List (Nat × Nat)) : Prop := es.Pairwise fun e f => ePr e &&& ePr f = 0
theorem ends_nd {e : Nat × Nat} {es : List (Nat × Nat)} : ePr e &&& nd es = 0 ↔ ∀ f ∈ es, ePr e &&& ePr f = 0 := by
  constructor
  · intro h f hf
    refine Nat.eq_of_testBit_eq fun i => ?_
    rw [Nat.zero_testBit]
    cases hb : (ePr e &&& ePr f).testBit i with
    | false => rfl
    | true =>
      rw [Nat.testBit_and, Bool.and_eq_true] at hb
      have h1 : (ePr e &&& nd es).testBit i = true := by rw [Nat.testBit_and, hb.1, (nd_bit es i).2 ⟨f, hf, hb.2⟩]; rfl
      rw [h, Nat.zero_testBit] at h1
      cases h1
  · intro h
    refine Nat.eq_of_testBit_eq fun i => ?_
    rw [Nat.zero_testBit]
    cases hb : (ePr e &&& nd es).testBit i with
    | false => rfl
    | true =>
      rw [Nat.testBit_and, Bool.and_eq_true] at hb
      obtain ⟨f, hf, h2⟩ := (nd_bit es i).1 hb.2
      have h1 : (ePr e &&& ePr f).testBit i = true := by rw [Nat.testBit_and, hb.1, h2]; rfl
      rw [h f hf, Nat.zero_testBit] at h1
      cases h1
theorem nd_count {es : List (Nat × Nat)} (h : Prs es) : pcf 15 (nd es) ≤ 2 * es.length ∧ (pcf 15 (nd es) = 2 * es.length ↔ Apart es) := by
  induction es with
  | nil => exact ⟨by simp [nd, pcf_zero], by simp [nd, pcf_zero, Apart]⟩
  | cons e es ih =>
    obtain ⟨h1, h2⟩ := ih fun f hf => h f (by simp [hf])
    obtain ⟨e2, e64⟩ := ends_two (h e (by simp))
    have h3 := pcf_or 15 (ePr e) (nd es)
    have h4 : nd (e :: es) = ePr e ||| nd es := rfl
    rw [h4, List.length_cons]
    refine ⟨by omega, ?_⟩
    unfold Apart
    rw [List.pairwise_cons]
    constructor
    · intro h5
      have h6 : pcf 15 (ePr e &&& nd es) = 0 := by omega
      have h7 := pcf_pos (f := 15) (Nat.lt_of_le_of_lt Nat.and_le_left (Nat.lt_trans e64 (by decide))) h6
      exact ⟨ends_nd.1 h7, h2.1 (by omega)⟩
    · rintro ⟨h5, h6⟩
      have h7 := ends_nd.2 h5
      have h8 := h2.2 h6
      rw [h7, pcf_zero] at h3
      omega

/-! ### sets of edges as lists -/
/-- The members of a set of pairs. -/
def esL (n E : Nat) : List (Nat × Nat) := (rows n).filter fun p => E.testBit (plN p)
theorem rows_pl : ∀ n : Fin 7, (rows n.val).map plN = List.range (rows n.val).length := by decide
theorem esL_length {n E : Nat} (h6 : n ≤ 6) (hE : E < 2 ^ (rows n).length) : (esL n E).length = pcf 15 E := by
  rw [pcf_count (rows_length n h6) hE]
  have h := rows_pl ⟨n, by omega⟩
  dsimp only at h
  rw [← h, List.filter_map, List.length_map]
  rfl
theorem rows_prs {n : Nat} (h6 : n ≤ 6) {es : List (Nat × Nat)} (h : ∀ e ∈ es, e ∈ rows n) : Prs es := fun e he => by
  have := rows_mem n e (h e he)
  omega
theorem pl_inj {e f : Nat × Nat} (he : e.1 < e.2 ∧ e.2 < 6) (hf : f.1 < f.2 ∧ f.2 < 6) (h : plN e = plN f) : e = f := by
  have h1 : ∀ b : Fin 6, ∀ a : Fin 6, ∀ d : Fin 6, ∀ c : Fin 6, a.val < b.val → c.val < d.val → plN (a.val, b.val) = plN (c.val, d.val) → (a.val, b.val) = (c.val, d.val) := by decide
  exact h1 ⟨e.2, he.2⟩ ⟨e.1, by omega⟩ ⟨f.2, hf.2⟩ ⟨f.1, by omega⟩ he.1 hf.1 h
/-- The code has just the edges. -/
theorem code_edge {L : List Int} (hg : IsGraph L) {p : Nat × Nat} (hp : p ∈ rows L.length) : (codeOf L).testBit (plN p) = true ↔ bt L p.1 p.2 = 1 := by
  have h6 := hg.2.1
  have h := rows_pl ⟨L.length, by omega⟩
  dsimp only at h
  obtain ⟨k, hk, e⟩ := List.getElem_of_mem hp
  have h1 : ((rows L.length).map plN)[k]? = some (plN p) := by rw [List.getElem?_map, List.getElem?_eq_getElem hk, e]; rfl
  rw [h, List.getElem?_range hk] at h1
  injection h1 with h1
  rw [← h1, ← e]
  exact crun_bit L (rows L.length) k hk
theorem code_pow (L : List Int) : codeOf L < 2 ^ (rows L.length).length := crun_lt L _
theorem bt_one {L : List Int} {a b : Nat} : (bt L a b == 1) = decide (bt L a b = 1) := by
  rw [Bool.eq_iff_iff, beq_iff_eq, decide_eq_true_eq]
/-- A set of edges as the program sees it: among the edges, those in the set. -/
theorem esL_edges {L : List Int} (hg : IsGraph L) {E : Nat} (hE : E &&& codeOf L = E) : (edgesIn L (rows L.length)).filter (fun p => E.testBit (plN p)) = esL L.length E := by
  unfold edgesIn esL
  rw [List.filter_filter]
  refine List.filter_congr fun p hp => ?_
  cases hb : E.testBit (plN p) with
  | false => rfl
  | true =>
    have h1 : (E &&& codeOf L).testBit (plN p) = true := by rw [hE]; exact hb
    rw [Nat.testBit_and, hb, Bool.true_and] at h1
    rw [(code_edge hg hp).1 h1]
    rfl
/-- The set of some edges. -/
theorem st_sub {L : List Int} (hg : IsGraph L) {es : List (Nat × Nat)} (h : ∀ e ∈ es, e ∈ edgesIn L (rows L.length)) : st es &&& codeOf L = st es := by
  refine Nat.eq_of_testBit_eq fun i => ?_
  rw [Nat.testBit_and]
  cases hb : (st es).testBit i with
  | false => rfl
  | true =>
    obtain ⟨e, he, rfl⟩ := (st_bit es i).1 hb
    have h1 := h e he
    unfold edgesIn at h1
    rw [List.mem_filter] at h1
    rw [(code_edge hg h1.1).2 (by simpa using h1.2)]
    rfl
theorem st_mem {n : Nat} (h6 : n ≤ 6) {es : List (Nat × Nat)} (h : ∀ e ∈ es, e ∈ rows n) (p : Nat × Nat) : p ∈ esL n (st es) ↔ p ∈ es := by
  unfold esL
  rw [List.mem_filter, st_bit]
  constructor
  · rintro ⟨h1, e, he, hp⟩
    have := pl_inj (rows_prs h6 h e he) (rows_prs h6 (es := [p]) (fun e he => by rw [List.mem_singleton.1 he]; exact h1) p (by simp)) hp
    rw [← this]; exact he
  · intro hp
    exact ⟨h p hp, p, hp, rfl⟩
theorem nd_same {es fs : List (Nat × Nat)} (h : ∀ p, p ∈ es ↔ p ∈ fs) : nd es = nd fs := by
  refine Nat.eq_of_testBit_eq fun i => ?_
  rw [Bool.eq_iff_iff, nd_bit, nd_bit]
  constructor
  · rintro ⟨e, he, h2⟩; exact ⟨e, (h e).1 he, h2⟩
  · rintro ⟨e, he, h2⟩; exact ⟨e, (h e).2 he, h2⟩
theorem st_le (es : List (Nat × Nat)) : pcf 15 (st es) ≤ es.length := by
  induction es with
  | nil => simp [st, pcf_zero]
  | cons e es ih =>
    have h1 := pcf_or 15 (2 ^ plN e) (st es)
    have h2 : pcf 15 (2 ^ plN e) ≤ 1 := by
      by_cases h : plN e < 15
      · have h3 := pcf_add 15 (plN e) 0 1 h (Nat.two_pow_pos _) (by omega)
        rw [Nat.zero_add, Nat.one_mul, pcf_zero] at h3
        omega
      · have h4 : ∀ f k, f ≤ k → pcf f (2 ^ k) = 0 := fun f => by
          induction f with
          | zero => intro _ _; rfl
          | succ f ih =>
            intro k hk
            obtain ⟨j, rfl⟩ : ∃ j, k = j + 1 := ⟨k - 1, by omega⟩
            show 2 ^ (j + 1) % 2 + pcf f (2 ^ (j + 1) / 2) = 0
            rw [Nat.pow_succ, Nat.mul_mod_left, Nat.mul_div_cancel _ (by decide), ih j (by omega)]
        rw [h4 15 _ (by omega)]
        omega
    show pcf 15 (2 ^ plN e ||| st es) ≤ es.length + 1
    omega

/-! ### all subsets come -/
theorem sub_next_least (k : Nat) : ∀ C s t : Nat, C < 2 ^ k → s &&& C = s → t &&& C = t → s < t → (s + 2 ^ k - C) &&& C ≤ t := by
  induction k with
  | zero =>
    intro C s t hC hs ht hlt
    have : C = 0 := by simpa using hC
    subst this
    simp at ht
    omega
  | succ k ih =>
    intro C s t hC hs ht hlt
    obtain ⟨h1, h2⟩ := sub_half hs
    obtain ⟨g1, g2⟩ := sub_half ht
    have hle := sub_le hs
    have hle2 := sub_le h1
    have gle := sub_le ht
    rw [Nat.pow_succ] at hC ⊢
    have hf := sub_fill k (C / 2) (s / 2) (by omega) h1
    have hi := ih (C / 2) (s / 2) (t / 2) (by omega) h1 g1
    have hp : 1 ≤ 2 ^ k := Nat.one_le_two_pow
    obtain ⟨p, ep⟩ : ∃ p, p = 2 ^ k := ⟨_, rfl⟩
    rw [← ep] at hC hp hf hi ⊢
    rw [and_bits]
    rcases Nat.mod_two_eq_zero_or_one s with hs2 | hs2 <;> rcases Nat.mod_two_eq_zero_or_one C with hc2 | hc2 <;> rw [hs2, hc2] at h2 <;> rw [hc2] at g2
    · have e : (s + p * 2 - C) / 2 = s / 2 + p - C / 2 := by omega
      have := hi (by omega)
      rw [e, hc2]; omega
    · have e : (s + p * 2 - C) / 2 = s / 2 + (p - 1 - C / 2) := by omega
      have e2 : (s + p * 2 - C) % 2 = 1 := by omega
      rw [e, hf, hc2, e2]; omega
    · omega
    · have e : (s + p * 2 - C) / 2 = s / 2 + p - C / 2 := by omega
      have e2 : (s + p * 2 - C) % 2 = 0 := by omega
      have := hi (by omega)
      rw [e, hc2, e2]; omega
theorem sb_all {C : Nat} (hC : C < 32768) {t : Nat} (ht : t &&& C = t) : t ∈ sbL C := by
  have h : ∀ f s, s &&& C = s → s ≤ t → t - s ≤ f → t ∈ sbFrom C f s := fun f => by
    induction f with
    | zero => intro s hs hl hf; simp [sbFrom]; omega
    | succ f ih =>
      intro s hs hl hf
      unfold sbFrom
      have htC := sub_le ht
      split
      · simp; omega
      · rename_i hne
        by_cases e : t = s
        · simp [e]
        · obtain ⟨h1, h2⟩ := nx_facts hC hs hne
          have h3 := sub_next_least 15 C s t hC hs ht (by omega)
          have h4 : nx C s ≤ t := by
            unfold nx
            have := sub_le hs
            rw [Nat.mod_eq_of_lt (by omega)]
            exact h3
          exact List.mem_cons_of_mem _ (ih (nx C s) h2 h4 (by omega))
  exact h 32768 0 (by simp) (Nat.zero_le _) (by have := sub_le ht; omega)
end Go.Proofs.YtfhaeocgbihddaaDoor
