/- The greatest matching, as the model finds it by recursion; the fewest edges that have all nodes. Plain mathematics. -/
import Derived.Test.YtfhaeocgbihddaaDoorMatchMath
namespace Go.Proofs.YtfhaeocgbihddaaDoor
open Go Go.RowKit
set_option linter.unusedVariables false
set_option maxRecDepth 100000

theorem outS_bit {N s : Nat} (hN : N < 64) (hs : s < 64) (i : Nat) : (outS N s).testBit i = (N.testBit i && !s.testBit i) := by
  unfold outS
  rw [Nat.testBit_and]
  have hbit : (18446744073709551615 - s).testBit i = (decide (i < 64) && !s.testBit i) := by
    have := Nat.testBit_two_pow_sub_succ (x := s) (n := 64) (by omega) i
    rw [← this]
    congr 1
    omega
  rw [hbit]
  by_cases hi : i < 6
  · rw [decide_eq_true (by omega), Bool.true_and]
  · have : N.testBit i = false := Nat.testBit_lt_two_pow (Nat.lt_of_lt_of_le hN (Nat.pow_le_pow_right (n := 2) (by omega) (show 6 ≤ i by omega)))
    rw [this, Bool.false_and, Bool.false_and]
theorem outS_le (N s : Nat) : outS N s ≤ N := Nat.and_le_left
theorem pow64 {v : Nat} (hv : v < 6) : 2 ^ v < 64 := Nat.lt_of_le_of_lt (pow_le v 5 (by omega)) (by decide)
theorem outS_lt {N v : Nat} (hN : N < 64) (hv : v < 6) (h : N.testBit v = true) : outS N (2 ^ v) < N := by
  refine Nat.lt_of_le_of_ne (outS_le _ _) fun e => ?_
  have h1 := outS_bit hN (s := 2 ^ v) (pow64 hv) v
  rw [e, h, Nat.testBit_two_pow_self] at h1
  cases h1
theorem bit6 {s v : Nat} (hs : s < 64) (h : s.testBit v = true) : v < 6 := by
  refine Nat.lt_of_not_le fun hl => ?_
  rw [Nat.testBit_lt_two_pow (Nat.lt_of_lt_of_le hs (Nat.pow_le_pow_right (n := 2) (by omega) hl))] at h
  cases h
/-- The least node of a set. -/
def lowN (s : Nat) : Nat := ((List.range 6).find? fun v => s.testBit v).getD 0
theorem low_facts {s : Nat} (hs : s < 64) (h0 : s ≠ 0) : s.testBit (lowN s) = true ∧ lowN s < 6 ∧ ∀ j, j < lowN s → s.testBit j = false := by
  have h : ∀ s : Fin 64, s.val ≠ 0 → s.val.testBit (lowN s.val) = true ∧ lowN s.val < 6 ∧ ∀ j : Fin 6, j.val < lowN s.val → s.val.testBit j.val = false := by decide +kernel
  obtain ⟨h1, h2, h3⟩ := h ⟨s, hs⟩ h0
  dsimp only at h1 h2 h3
  exact ⟨h1, h2, fun j hj => h3 ⟨j, by omega⟩ hj⟩
theorem low_eq {s v : Nat} (hs : s < 64) (hv : s.testBit v = true) (hl : ∀ j, j < v → s.testBit j = false) : lowN s = v := by
  have h0 : s ≠ 0 := fun e => by rw [e] at hv; simp at hv
  obtain ⟨h1, h2, h3⟩ := low_facts hs h0
  rcases Nat.lt_trichotomy (lowN s) v with h | h | h
  · rw [hl _ h] at h1; cases h1
  · exact h
  · rw [h3 _ h] at hv; cases hv

def matStep (L : List Int) (v s : Nat) (g : Nat → Nat) (b w : Nat) : Nat := if inS (ent L v &&& s) w = true then max b (1 + g (outS s (2 ^ w))) else b
/-- The model's recursion. -/
def matR (L : List Int) : Nat → Nat → Nat
  | 0, _ => 0
  | f + 1, s => if s = 0 then 0 else (List.range L.length).foldl (matStep L (lowN s) (outS s (2 ^ lowN s)) (matR L f)) (matR L f (outS s (2 ^ lowN s)))
theorem mat_fold (L : List Int) (v s : Nat) (g : Nat → Nat) (m : Nat) (ws : List Nat) :
    (ws.foldl (matStep L v s g) m = m ∨ ∃ w ∈ ws, inS (ent L v &&& s) w = true ∧ ws.foldl (matStep L v s g) m = 1 + g (outS s (2 ^ w))) ∧ m ≤ ws.foldl (matStep L v s g) m ∧
      ∀ w ∈ ws, inS (ent L v &&& s) w = true → 1 + g (outS s (2 ^ w)) ≤ ws.foldl (matStep L v s g) m := by
  induction ws using snoc_ind with
  | h0 => exact ⟨.inl rfl, Nat.le_refl _, fun w hw => absurd hw (by simp)⟩
  | h1 l x ih =>
    obtain ⟨h1, h2, h3⟩ := ih
    rw [List.foldl_append, List.foldl_cons, List.foldl_nil]
    obtain ⟨r, er⟩ : ∃ r, r = l.foldl (matStep L v s g) m := ⟨_, rfl⟩
    rw [← er] at h1 h2 h3 ⊢
    unfold matStep
    by_cases hc : inS (ent L v &&& s) x = true
    · rw [if_pos hc]
      refine ⟨?_, by omega, fun w hw hcw => ?_⟩
      · rcases Nat.le_total r (1 + g (outS s (2 ^ x))) with h | h
        · rw [Nat.max_eq_right h]; exact .inr ⟨x, by simp, hc, rfl⟩
        · rw [Nat.max_eq_left h]
          rcases h1 with h1 | ⟨w, hw, h4, h5⟩
          · exact .inl h1
          · exact .inr ⟨w, by simp [hw], h4, h5⟩
      · rcases List.mem_append.1 hw with hw | hw
        · have := h3 w hw hcw; omega
        · rw [List.mem_singleton.1 hw]; omega
    · rw [if_neg hc]
      refine ⟨?_, h2, fun w hw hcw => ?_⟩
      · rcases h1 with h1 | ⟨w, hw, h4, h5⟩
        · exact .inl h1
        · exact .inr ⟨w, by simp [hw], h4, h5⟩
      · rcases List.mem_append.1 hw with hw | hw
        · exact h3 w hw hcw
        · rw [List.mem_singleton.1 hw] at hcw; exact absurd hcw hc

/-- Edges of a graph with both nodes in a set. -/
def EdS (L : List Int) (s : Nat) (es : List (Nat × Nat)) : Prop := ∀ e ∈ es, e.1 < e.2 ∧ e.2 < L.length ∧ bt L e.1 e.2 = 1 ∧ s.testBit e.1 = true ∧ s.testBit e.2 = true
theorem apart_perm {es fs : List (Nat × Nat)} (h : es.Perm fs) (ha : Apart es) : Apart fs := by
  unfold Apart at ha ⊢
  exact (h.pairwise_iff (fun {a b} hab => by rw [Nat.and_comm]; exact hab)).1 ha
theorem ends_apart {a b c d : Nat} (h : ePr (a, b) &&& ePr (c, d) = 0) : c ≠ a ∧ c ≠ b ∧ d ≠ a ∧ d ≠ b := by
  have key : ∀ i, ¬ ((ePr (a, b)).testBit i = true ∧ (ePr (c, d)).testBit i = true) := fun i hi => by
    have : (ePr (a, b) &&& ePr (c, d)).testBit i = true := by rw [Nat.testBit_and, hi.1, hi.2]; rfl
    rw [h, Nat.zero_testBit] at this
    cases this
  refine ⟨fun e => key c ⟨(ends_bit a b c).2 (.inl e), (ends_bit c d c).2 (.inl rfl)⟩, fun e => key c ⟨(ends_bit a b c).2 (.inr e), (ends_bit c d c).2 (.inl rfl)⟩,
    fun e => key d ⟨(ends_bit a b d).2 (.inl e), (ends_bit c d d).2 (.inr rfl)⟩, fun e => key d ⟨(ends_bit a b d).2 (.inr e), (ends_bit c d d).2 (.inr rfl)⟩⟩
theorem apart_ends {a b c d : Nat} (h1 : c ≠ a) (h2 : c ≠ b) (h3 : d ≠ a) (h4 : d ≠ b) : ePr (a, b) &&& ePr (c, d) = 0 := by
  refine Nat.eq_of_testBit_eq fun i => ?_
  rw [Nat.zero_testBit]
  cases hb : (ePr (a, b) &&& ePr (c, d)).testBit i with
  | false => rfl
  | true =>
    rw [Nat.testBit_and, Bool.and_eq_true, ends_bit, ends_bit] at hb
    omega
theorem mat_upper {L : List Int} (h6 : L.length ≤ 6) (f : Nat) : ∀ s, s < f → s < 64 → ∀ es, EdS L s es → Apart es → es.length ≤ matR L f s := by
  induction f with
  | zero => intro s hs; omega
  | succ f ih =>
    intro s hs h64 es hE hA
    unfold matR
    by_cases h0 : s = 0
    · rw [if_pos h0]
      cases es with
      | nil => exact Nat.le_refl _
      | cons e es =>
        have := (hE e (by simp)).2.2.2.1
        rw [h0] at this
        simp at this
    · rw [if_neg h0]
      obtain ⟨l1, l2, l3⟩ := low_facts h64 h0
      obtain ⟨v, ev⟩ : ∃ v, v = lowN s := ⟨_, rfl⟩
      rw [← ev] at l1 l2 l3 ⊢
      have hv64 := pow64 l2
      have hlt := outS_lt h64 l2 l1
      have hb := outS_bit h64 hv64
      obtain ⟨s', es'⟩ : ∃ s', s' = outS s (2 ^ v) := ⟨_, rfl⟩
      rw [← es'] at hlt hb ⊢
      obtain ⟨_, f2, f3⟩ := mat_fold L v s' (matR L f) (matR L f s') (List.range L.length)
      by_cases hex : ∃ e ∈ es, e.1 = v ∨ e.2 = v
      · obtain ⟨e, he, hev⟩ := hex
        obtain ⟨q1, q2, q3, q4, q5⟩ := hE e he
        have hv1 : e.1 = v := by
          rcases hev with h | h
          · exact h
          · have := l3 e.1 (by omega); rw [q4] at this; cases this
        obtain ⟨a, b⟩ := e
        dsimp only at q1 q2 q3 q4 q5 hv1
        subst hv1
        have hp := List.perm_cons_erase he
        have hA2 := apart_perm hp hA
        unfold Apart at hA2
        rw [List.pairwise_cons] at hA2
        have hw64 := pow64 (v := b) (by omega)
        have hsb : s'.testBit b = true := by
          rw [hb, q5, Nat.testBit_two_pow, decide_eq_false (by omega)]; rfl
        have hc : inS (ent L a &&& s') b = true := by
          unfold inS
          rw [Nat.testBit_and, hsb, (tb _ _).1 q3]; rfl
        have h1 := f3 b (List.mem_range.2 q2) hc
        have hlt2 := outS_lt (N := s') (v := b) (by omega) (by omega) hsb
        have hb2 := outS_bit (N := s') (by omega) hw64
        have h2 := ih (outS s' (2 ^ b)) (by omega) (by omega) (es.erase (a, b)) (fun g hg => by
          obtain ⟨r1, r2, r3, r4, r5⟩ := hE g (List.mem_of_mem_erase hg)
          obtain ⟨x1, x2, x3, x4⟩ := ends_apart (c := g.1) (d := g.2) (hA2.1 g hg)
          refine ⟨r1, r2, r3, ?_, ?_⟩
          · rw [hb2, hb, r4, Nat.testBit_two_pow, Nat.testBit_two_pow, decide_eq_false (by omega), decide_eq_false (by omega)]; rfl
          · rw [hb2, hb, r5, Nat.testBit_two_pow, Nat.testBit_two_pow, decide_eq_false (by omega), decide_eq_false (by omega)]; rfl) hA2.2
        have h3 := hp.length_eq
        rw [List.length_cons] at h3
        omega
      · have h1 := ih s' (by omega) (by omega) es (fun g hg => by
          obtain ⟨r1, r2, r3, r4, r5⟩ := hE g hg
          have hn1 : g.1 ≠ v := fun e => hex ⟨g, hg, .inl e⟩
          have hn2 : g.2 ≠ v := fun e => hex ⟨g, hg, .inr e⟩
          refine ⟨r1, r2, r3, ?_, ?_⟩
          · rw [hb, r4, Nat.testBit_two_pow, decide_eq_false (by omega)]; rfl
          · rw [hb, r5, Nat.testBit_two_pow, decide_eq_false (by omega)]; rfl) hA
        omega
theorem mat_lower {L : List Int} (h6 : L.length ≤ 6) (f : Nat) : ∀ s, s < f → s < 64 → s < 2 ^ L.length → ∃ es, EdS L s es ∧ Apart es ∧ es.length = matR L f s := by
  induction f with
  | zero => intro s hs; omega
  | succ f ih =>
    intro s hs h64 hn
    unfold matR
    by_cases h0 : s = 0
    · rw [if_pos h0]
      exact ⟨[], fun e he => absurd he (by simp), List.Pairwise.nil, rfl⟩
    · rw [if_neg h0]
      obtain ⟨l1, l2, l3⟩ := low_facts h64 h0
      obtain ⟨v, ev⟩ : ∃ v, v = lowN s := ⟨_, rfl⟩
      rw [← ev] at l1 l2 l3 ⊢
      have hv64 := pow64 l2
      have hlt := outS_lt h64 l2 l1
      have hb := outS_bit h64 hv64
      obtain ⟨s', es'⟩ : ∃ s', s' = outS s (2 ^ v) := ⟨_, rfl⟩
      rw [← es'] at hlt hb ⊢
      obtain ⟨f1, _, _⟩ := mat_fold L v s' (matR L f) (matR L f s') (List.range L.length)
      rcases f1 with f1 | ⟨w, hw, hc, f1⟩
      · rw [f1]
        obtain ⟨es, e1, e2, e3⟩ := ih s' (by omega) (by omega) (by omega)
        refine ⟨es, fun g hg => ?_, e2, e3⟩
        obtain ⟨r1, r2, r3, r4, r5⟩ := e1 g hg
        rw [hb, Bool.and_eq_true] at r4 r5
        exact ⟨r1, r2, r3, r4.1, r5.1⟩
      · rw [f1]
        rw [List.mem_range] at hw
        unfold inS at hc
        rw [Nat.testBit_and, Bool.and_eq_true] at hc
        have hsw := hc.2
        have hb1 := hsw
        rw [hb, Bool.and_eq_true, Nat.testBit_two_pow] at hb1
        have hwv : ¬ v = w := by simpa using hb1.2
        have hvw : v < w := by
          refine Nat.lt_of_not_le fun hl => ?_
          have := l3 w (by omega)
          rw [hb1.1] at this; cases this
        have hw64 := pow64 (v := w) (by omega)
        have hlt2 := outS_lt (N := s') (v := w) (by omega) (by omega) hsw
        have hb2 := outS_bit (N := s') (by omega) hw64
        obtain ⟨es, e1, e2, e3⟩ := ih (outS s' (2 ^ w)) (by omega) (by omega) (by omega)
        have key : ∀ g ∈ es, (g.1 < g.2 ∧ g.2 < L.length ∧ bt L g.1 g.2 = 1) ∧ s.testBit g.1 = true ∧ s.testBit g.2 = true ∧ g.1 ≠ v ∧ g.1 ≠ w ∧ g.2 ≠ v ∧ g.2 ≠ w := fun g hg => by
          obtain ⟨r1, r2, r3, r4, r5⟩ := e1 g hg
          rw [hb2, hb, Nat.testBit_two_pow, Nat.testBit_two_pow, Bool.and_eq_true, Bool.and_eq_true] at r4 r5
          have a1 : ¬ v = g.1 := by simpa using r4.1.2
          have a2 : ¬ w = g.1 := by simpa using r4.2
          have a3 : ¬ v = g.2 := by simpa using r5.1.2
          have a4 : ¬ w = g.2 := by simpa using r5.2
          exact ⟨⟨r1, r2, r3⟩, r4.1.1, r5.1.1, by omega, by omega, by omega, by omega⟩
        refine ⟨(v, w) :: es, fun g hg => ?_, ?_, by rw [List.length_cons, e3]; omega⟩
        · rcases List.mem_cons.1 hg with rfl | hg
          · exact ⟨hvw, hw, (tb _ _).2 hc.1, l1, hb1.1⟩
          · obtain ⟨⟨r1, r2, r3⟩, r4, r5, _⟩ := key g hg
            exact ⟨r1, r2, r3, r4, r5⟩
        · unfold Apart
          rw [List.pairwise_cons]
          refine ⟨fun g hg => ?_, e2⟩
          obtain ⟨_, _, _, x1, x2, x3, x4⟩ := key g hg
          exact apart_ends x1 x2 x3 x4

/-! ### for a graph -/
def matN (L : List Int) : Nat := matR L 64 (2 ^ L.length - 1)
/-- Matchings, as the program tells them. -/
def matchB (L : List Int) (E : Nat) : Bool := pcf 15 (nd (esL L.length E)) == 2 * pcf 15 E
theorem esL_rows (n E : Nat) : ∀ e ∈ esL n E, e ∈ rows n := fun e he => (List.mem_filter.1 he).1
theorem sub_pow {L : List Int} {E : Nat} (hE : E &&& codeOf L = E) : E < 2 ^ (rows L.length).length := Nat.lt_of_le_of_lt (sub_le hE) (code_pow L)
theorem eds_of {L : List Int} (hg : IsGraph L) {es : List (Nat × Nat)} (h : ∀ e ∈ es, e ∈ edgesIn L (rows L.length)) : EdS L (2 ^ L.length - 1) es := fun e he => by
  have h1 := h e he
  unfold edgesIn at h1
  rw [List.mem_filter] at h1
  have h2 := rows_mem _ e h1.1
  refine ⟨h2.1, h2.2, by simpa using h1.2, ?_, ?_⟩
  · rw [Nat.testBit_two_pow_sub_one]; simp; omega
  · rw [Nat.testBit_two_pow_sub_one]; simp; omega
theorem of_eds {L : List Int} {s : Nat} {es : List (Nat × Nat)} (h : EdS L s es) : ∀ e ∈ es, e ∈ edgesIn L (rows L.length) := fun e he => by
  obtain ⟨h1, h2, h3, _⟩ := h e he
  unfold edgesIn
  rw [List.mem_filter]
  exact ⟨upto_all _ _ _ h1 h2, by simpa using h3⟩
theorem edges_rows {L : List Int} {es : List (Nat × Nat)} (h : ∀ e ∈ es, e ∈ edgesIn L (rows L.length)) : ∀ e ∈ es, e ∈ rows L.length := fun e he => (List.mem_filter.1 (h e he)).1
theorem full64 {n : Nat} (h6 : n ≤ 6) : 2 ^ n - 1 < 64 := by
  have := two_le h6
  have := two_pos n
  omega
theorem match_max {L : List Int} (hg : IsGraph L) : IsMax (szs (matchB L) (sbL (codeOf L))) (matN L) := by
  have h6 := hg.2.1
  have hC : codeOf L < 32768 := crun_small L _ (rows_length _ h6)
  have hp := two_pos L.length
  constructor
  · obtain ⟨es, e1, e2, e3⟩ := mat_lower h6 64 (2 ^ L.length - 1) (full64 h6) (full64 h6) (by omega)
    have e4 := of_eds e1
    have e5 := edges_rows e4
    have e6 := st_sub hg e4
    have hs := nd_same (st_mem h6 e5)
    have hc := nd_count (rows_prs h6 e5)
    have hc2 := nd_count (rows_prs h6 (esL_rows L.length (st es)))
    have hl := esL_length (n := L.length) (E := st es) h6 (sub_pow e6)
    have hle := st_le es
    have h1 := hc.2.2 e2
    rw [hs, hl] at hc2
    have h2 := hc2.1
    have h3 : pcf 15 (st es) = es.length := by omega
    refine szs_mem.2 ⟨st es, sb_all hC e6, ?_, by rw [h3, e3]; rfl⟩
    unfold matchB
    rw [beq_iff_eq, hs, h1, h3]
  · intro x hx
    obtain ⟨E, hE, hm, rfl⟩ := szs_mem.1 hx
    have hs := sb_mem hC hE
    have hl := esL_length (n := L.length) (E := E) h6 (sub_pow hs)
    unfold matchB at hm
    rw [beq_iff_eq, ← hl] at hm
    rw [← hl]
    have hr := esL_rows L.length E
    have ha := (nd_count (rows_prs h6 hr)).2.1 hm
    refine mat_upper h6 64 _ (full64 h6) (full64 h6) _ (eds_of hg fun e he => ?_) ha
    rw [← esL_edges hg hs] at he
    exact (List.mem_filter.1 he).1

/-! ### edges that have all nodes -/
def coverEB (L : List Int) (E : Nat) : Bool := nd (esL L.length E) == 2 ^ L.length - 1
theorem pcf_mono {f x y : Nat} (h : x &&& y = x) : pcf f x ≤ pcf f y := by
  induction f generalizing x y with
  | zero => exact Nat.le_refl _
  | succ f ih =>
    obtain ⟨h1, h2⟩ := sub_half h
    have := ih h1
    show x % 2 + pcf f (x / 2) ≤ y % 2 + pcf f (y / 2)
    rcases Nat.mod_two_eq_zero_or_one x with hx | hx <;> rcases Nat.mod_two_eq_zero_or_one y with hy | hy <;> rw [hx, hy] at h2 <;> omega
/-- Among some pairs there are as many without common nodes as the nodes ask. -/
theorem match_in (es : List (Nat × Nat)) (h : Prs es) : ∃ M : List (Nat × Nat), (∀ e ∈ M, e ∈ es) ∧ Apart M ∧ pcf 15 (nd es) ≤ es.length + M.length := by
  induction es with
  | nil => exact ⟨[], fun e he => he, List.Pairwise.nil, by simp [nd, pcf_zero]⟩
  | cons e es ih =>
    obtain ⟨M, h1, h2, h3⟩ := ih fun f hf => h f (by simp [hf])
    obtain ⟨e2, e64⟩ := ends_two (h e (by simp))
    have h4 := pcf_or 15 (ePr e) (nd es)
    have h5 : nd (e :: es) = ePr e ||| nd es := rfl
    by_cases h0 : ePr e &&& nd es = 0
    · refine ⟨e :: M, fun f hf => ?_, ?_, ?_⟩
      · rcases List.mem_cons.1 hf with rfl | hf
        · simp
        · simp [h1 f hf]
      · unfold Apart
        rw [List.pairwise_cons]
        exact ⟨fun f hf => ends_nd.1 h0 f (h1 f hf), h2⟩
      · rw [h5, List.length_cons, List.length_cons]
        rw [h0, pcf_zero] at h4
        omega
    · refine ⟨M, fun f hf => by simp [h1 f hf], h2, ?_⟩
      have h6 : 0 < pcf 15 (ePr e &&& nd es) := Nat.pos_of_ne_zero fun hz => h0 (pcf_pos (f := 15) (Nat.lt_of_le_of_lt Nat.and_le_left (Nat.lt_trans e64 (by decide))) hz)
      rw [h5, List.length_cons]
      omega
theorem pcf_full {n : Nat} (h6 : n ≤ 6) : pcf 15 (2 ^ n - 1) = n := by
  have : ∀ n : Fin 7, pcf 15 (2 ^ n.val - 1) = n.val := by decide +kernel
  exact this ⟨n, by omega⟩
theorem nd_full {n : Nat} {es : List (Nat × Nat)} (h : ∀ e ∈ es, e ∈ rows n) : nd es &&& (2 ^ n - 1) = nd es := by
  refine Nat.eq_of_testBit_eq fun i => ?_
  rw [Nat.testBit_and]
  cases hb : (nd es).testBit i with
  | false => rfl
  | true =>
    obtain ⟨e, he, h1⟩ := (nd_bit es i).1 hb
    have h2 := rows_mem n e (h e he)
    rw [show e = (e.1, e.2) from rfl, ends_bit] at h1
    rw [Nat.testBit_two_pow_sub_one]
    simp
    omega
theorem cover_grow {L : List Int} (hg : IsGraph L) (hi : ∀ v, v < L.length → ent L v ≠ 0) (k : Nat) : ∀ es : List (Nat × Nat), (∀ e ∈ es, e ∈ edgesIn L (rows L.length)) → L.length ≤ pcf 15 (nd es) + k →
    ∃ fs : List (Nat × Nat), (∀ e ∈ fs, e ∈ edgesIn L (rows L.length)) ∧ nd fs = 2 ^ L.length - 1 ∧ fs.length ≤ es.length + k := by
  have h6 := hg.2.1
  induction k with
  | zero =>
    intro es he hk
    refine ⟨es, he, ?_, Nat.le_refl _⟩
    have h1 := nd_full (edges_rows he)
    have h2 := pcf_full h6
    have h3 := pcf_or 15 (nd es) (outS (2 ^ L.length - 1) (nd es))
    have h64 := nd_lt (rows_prs h6 (edges_rows he))
    have hb := outS_bit (full64 h6) h64
    have h4 : nd es ||| outS (2 ^ L.length - 1) (nd es) = 2 ^ L.length - 1 := by
      refine Nat.eq_of_testBit_eq fun i => ?_
      rw [Nat.testBit_or, hb]
      have h5 : (nd es &&& (2 ^ L.length - 1)).testBit i = (nd es).testBit i := by rw [h1]
      rw [Nat.testBit_and] at h5
      cases ha : (nd es).testBit i <;> cases hc : (2 ^ L.length - 1).testBit i <;> simp_all
    have h5 : nd es &&& outS (2 ^ L.length - 1) (nd es) = 0 := by
      refine Nat.eq_of_testBit_eq fun i => ?_
      rw [Nat.testBit_and, hb, Nat.zero_testBit]
      cases ha : (nd es).testBit i <;> simp
    rw [h4, h5, pcf_zero, h2] at h3
    have h7 : pcf 15 (outS (2 ^ L.length - 1) (nd es)) = 0 := by omega
    have h8 := pcf_pos (f := 15) (Nat.lt_of_le_of_lt (outS_le _ _) (Nat.lt_trans (full64 h6) (by decide))) h7
    rw [h8, Nat.or_zero] at h4
    exact h4
  | succ k ih =>
    intro es he hk
    by_cases hall : nd es = 2 ^ L.length - 1
    · exact ⟨es, he, hall, by omega⟩
    · have hex : ∃ u, u < L.length ∧ (nd es).testBit u = false := by
        refine Classical.byContradiction fun hn => hall (Nat.eq_of_testBit_eq fun i => ?_)
        rw [Nat.testBit_two_pow_sub_one]
        by_cases hi : i < L.length
        · rw [decide_eq_true hi]
          cases hb : (nd es).testBit i with
          | true => rfl
          | false => exact absurd ⟨i, hi, hb⟩ hn
        · rw [decide_eq_false hi]
          have h1 := nd_full (edges_rows he)
          rw [← h1, Nat.testBit_and, Nat.testBit_two_pow_sub_one, decide_eq_false hi, Bool.and_false]
      obtain ⟨u, hu, hub⟩ := hex
      obtain ⟨w, hw⟩ := Nat.exists_testBit_of_ne_zero (hi u hu)
      have hb1 : bt L u w = 1 := (tb _ _).2 hw
      have hwl := bt_lt hg hu hb1
      have huw : u ≠ w := fun e => by subst e; have := (hg.2.2 u hu).2.1; omega
      have hed : ∃ e, e ∈ edgesIn L (rows L.length) ∧ (ePr e).testBit u = true := by
        rcases Nat.lt_or_ge u w with hl | hl
        · refine ⟨(u, w), ?_, (ends_bit _ _ _).2 (.inl rfl)⟩
          unfold edgesIn
          rw [List.mem_filter]
          exact ⟨upto_all _ _ _ hl hwl, by simpa using hb1⟩
        · refine ⟨(w, u), ?_, (ends_bit _ _ _).2 (.inr rfl)⟩
          unfold edgesIn
          rw [List.mem_filter]
          refine ⟨upto_all _ _ _ (by omega) hu, ?_⟩
          have := (hg.2.2 u hu).2.2 w (by omega)
          simp
          omega
      obtain ⟨e, he1, he2⟩ := hed
      have hgrow : pcf 15 (nd es) + 1 ≤ pcf 15 (nd (e :: es)) := by
        have h1 := pcf_or 15 (2 ^ u) (nd es)
        have h2 : 2 ^ u &&& nd es = 0 := by
          refine Nat.eq_of_testBit_eq fun i => ?_
          rw [Nat.testBit_and, Nat.testBit_two_pow, Nat.zero_testBit]
          by_cases hi : u = i
          · subst hi; rw [hub, Bool.and_false]
          · rw [decide_eq_false hi, Bool.false_and]
        have h3 : pcf 15 (2 ^ u) = 1 := by
          have h3 := pcf_add 15 u 0 1 (by omega) (Nat.two_pow_pos _) (by omega)
          rw [Nat.zero_add, Nat.one_mul, pcf_zero] at h3
          exact h3
        rw [h2, pcf_zero, h3] at h1
        have h4 : pcf 15 (2 ^ u ||| nd es) ≤ pcf 15 (nd (e :: es)) := by
          refine pcf_mono (Nat.eq_of_testBit_eq fun i => ?_)
          show ((2 ^ u ||| nd es) &&& (ePr e ||| nd es)).testBit i = _
          rw [Nat.testBit_and, Nat.testBit_or, Nat.testBit_or, Nat.testBit_two_pow]
          by_cases hi : u = i
          · subst hi; rw [he2]; simp
          · rw [decide_eq_false hi]; cases (nd es).testBit i <;> simp
        omega
      obtain ⟨fs, f1, f2, f3⟩ := ih (e :: es) (fun g hg' => by
        rcases List.mem_cons.1 hg' with rfl | hg'
        · exact he1
        · exact he g hg') (by omega)
      exact ⟨fs, f1, f2, by rw [List.length_cons] at f3; omega⟩
theorem lines_min {L : List Int} (hg : IsGraph L) (hi : ∀ v, v < L.length → ent L v ≠ 0) : matN L ≤ L.length ∧ IsMin (szs (coverEB L) (sbL (codeOf L))) (L.length - matN L) := by
  have h6 := hg.2.1
  have hC : codeOf L < 32768 := crun_small L _ (rows_length _ h6)
  have hp := two_pos L.length
  obtain ⟨es, e1, e2, e3⟩ := mat_lower h6 64 (2 ^ L.length - 1) (full64 h6) (full64 h6) (by omega)
  have e3' : es.length = matN L := e3
  have e4 := of_eds e1
  have e5 := edges_rows e4
  have hc := nd_count (rows_prs h6 e5)
  have h1 := hc.2.2 e2
  have hle : pcf 15 (nd es) ≤ L.length := by
    have := pcf_mono (f := 15) (nd_full e5)
    rw [pcf_full h6] at this
    exact this
  have low : ∀ E, E ∈ sbL (codeOf L) → coverEB L E = true → L.length - matN L ≤ pcf 15 E := fun E hE hcv => by
    have hs := sb_mem hC hE
    have hl := esL_length (n := L.length) (E := E) h6 (sub_pow hs)
    unfold coverEB at hcv
    rw [beq_iff_eq] at hcv
    obtain ⟨M, m1, m2, m3⟩ := match_in _ (rows_prs h6 (esL_rows L.length E))
    rw [hcv, pcf_full h6, hl] at m3
    have m4 := mat_upper h6 64 _ (full64 h6) (full64 h6) M (eds_of hg fun e he => by
      have := m1 e he
      rw [← esL_edges hg hs] at this
      exact (List.mem_filter.1 this).1) m2
    have m5 : M.length ≤ matN L := m4
    omega
  refine ⟨by omega, ?_, fun x hx => ?_⟩
  · obtain ⟨fs, f1, f2, f3⟩ := cover_grow hg hi (L.length - 2 * es.length) es e4 (by omega)
    have f5 := edges_rows f1
    have f6 := st_sub hg f1
    have hs := nd_same (st_mem h6 f5)
    have hcv : coverEB L (st fs) = true := by unfold coverEB; rw [beq_iff_eq, hs, f2]
    have hlo := low _ (sb_all hC f6) hcv
    have hup := st_le fs
    exact szs_mem.2 ⟨st fs, sb_all hC f6, hcv, by omega⟩
  · obtain ⟨E, hE, hcv, rfl⟩ := szs_mem.1 hx
    exact low E hE hcv
end Go.Proofs.YtfhaeocgbihddaaDoor
