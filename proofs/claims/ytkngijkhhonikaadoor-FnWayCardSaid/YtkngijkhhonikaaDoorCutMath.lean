/- Sets of edges by the cuts that they do not cross; the edges taken one by one make a tree, and the least one. -/
import Derived.Test.YtkngijkhhonikaaDoorFirstMath
import Derived.Test.YtkngijkhhonikaaDoorBaseG
namespace Go.Proofs.YtkngijkhhonikaaDoor
open Go Go.RowKit
set_option linter.unusedVariables false
set_option maxRecDepth 100000

theorem rows_plc : ∀ n : Fin 7, ∀ e ∈ rows n.val, (rows n.val)[plc e]? = some e ∧ plc e < 15 ∧ e.1 < e.2 ∧ e.2 < n.val := by decide
theorem rows_asc : ∀ n : Fin 7, (rows n.val).Pairwise (fun e e' => plc e < plc e') := by decide
/-- No edge of the set crosses. -/
def NC (n s t : Nat) : Prop := ∀ e ∈ rows n, s.testBit (plc e) = true → t.testBit e.1 = t.testBit e.2
theorem NC.xor {n s t t' : Nat} (h : NC n s t) (h' : NC n s t') : NC n s (t ^^^ t') := fun e he hs => by
  rw [Nat.testBit_xor, Nat.testBit_xor, h e he hs, h' e he hs]
theorem fullT_bit {n v : Nat} (hv : v < n) : (2 ^ n - 1).testBit v = true := by simp [Nat.testBit_two_pow_sub_one, hv]
theorem fullT_no {n v : Nat} (hv : n ≤ v) : (2 ^ n - 1).testBit v = false := by
  rw [Nat.testBit_two_pow_sub_one]; simp; omega
theorem NC.full {n : Nat} (hn : n ≤ 6) (s : Nat) : NC n s (2 ^ n - 1) := fun e he hs => by
  have h := (rows_plc ⟨n, by omega⟩ e he).2.2
  have h2 : e.2 < n := h.2
  rw [fullT_bit h2, fullT_bit (by omega)]
theorem bt_cut {n s i j : Nat} (hn : n ≤ 6) : bt (codeG n s) i j = 1 ↔ ∃ e ∈ rows n, s.testBit (plc e) = true ∧ Either e i j := by
  rw [codeG_bt]
  constructor
  · rintro ⟨k, e, hk, hb, he⟩
    have hm : e ∈ rows n := List.mem_of_getElem? hk
    have hp := (rows_plc ⟨n, by omega⟩ e hm).1
    dsimp only at hp
    have hkk : k = plc e := by
      have h1 := (List.getElem?_eq_some_iff.1 hk).1
      have hnd : (rows n).Nodup := (rows_asc ⟨n, by omega⟩).imp (fun h e => by rw [e] at h; omega)
      have h2 := (List.getElem?_eq_some_iff.1 hp).1
      exact (List.getElem_inj (h₀ := h1) (h₁ := h2) hnd).1 (by rw [(List.getElem?_eq_some_iff.1 hk).2, (List.getElem?_eq_some_iff.1 hp).2])
    refine ⟨e, hm, ?_, he⟩
    rw [← hkk, Nat.testBit_eq_decide_div_mod_eq, decide_eq_true_eq]
    exact hb
  · rintro ⟨e, hm, hb, he⟩
    refine ⟨plc e, e, (rows_plc ⟨n, by omega⟩ e hm).1, ?_, he⟩
    rw [Nat.testBit_eq_decide_div_mod_eq, decide_eq_true_eq] at hb
    exact hb
theorem ent_test (L : List Int) (i j : Nat) : (ent L i).testBit j = true ↔ bt L i j = 1 := by
  unfold bt
  rw [Nat.testBit_eq_decide_div_mod_eq, decide_eq_true_eq]
theorem closed_nc {n s t : Nat} (h1 : 1 ≤ n) (h6 : n ≤ 6) : Closed (codeG n s) t ↔ NC n s t := by
  have hl := codeG_length n s
  constructor
  · intro hc e he hs
    have hr := (rows_plc ⟨n, by omega⟩ e he).2.2
    have hr1 : e.1 < e.2 := hr.1
    have hr2 : e.2 < n := hr.2
    have b1 := (bt_cut (n := n) (s := s) (i := e.1) (j := e.2) h6).2 ⟨e, he, hs, .inl ⟨rfl, rfl⟩⟩
    have b2 := (bt_cut (n := n) (s := s) (i := e.2) (j := e.1) h6).2 ⟨e, he, hs, .inr ⟨rfl, rfl⟩⟩
    rw [Bool.eq_iff_iff]
    exact ⟨fun h => hc e.1 (by omega) h e.2 ((ent_test _ _ _).2 b1), fun h => hc e.2 (by omega) h e.1 ((ent_test _ _ _).2 b2)⟩
  · intro hn v hv ht j hj
    obtain ⟨e, he, hs, hE⟩ := (bt_cut h6).1 ((ent_test _ _ _).1 hj)
    have h := hn e he hs
    rcases hE with ⟨e1, e2⟩ | ⟨e1, e2⟩
    · rw [e2, ← h, ← e1]; exact ht
    · rw [e2, h, ← e1]; exact ht
theorem ld_yes {n s a b : Nat} (h1 : 1 ≤ n) (h6 : n ≤ 6) (ha : a < n) (hb : b < n) (h : ldG n s a b = 1) {t : Nat} (ht : NC n s t) : t.testBit a = t.testBit b := by
  have key : ∀ t, NC n s t → t.testBit a = true → t.testBit b = true := fun t ht hta => by
    have hsub : Sub (2 ^ a) t := fun j hj => by
      rw [Nat.testBit_two_pow] at hj
      have e : a = j := by simpa using hj
      rw [← e]; exact hta
    have hr := reaches_in hsub ((closed_nc h1 h6).2 ht) (codeG n s).length
    refine hr b ?_
    rw [Nat.testBit_eq_decide_div_mod_eq, decide_eq_true_eq]
    exact h
  cases hta : t.testBit a with
  | true => exact (key t ht hta).symm
  | false =>
    have h2 := key (t ^^^ (2 ^ n - 1)) (ht.xor (NC.full h6 s)) (by rw [Nat.testBit_xor, hta, fullT_bit ha]; rfl)
    rw [Nat.testBit_xor, fullT_bit hb] at h2
    cases htb : t.testBit b with
    | true => rw [htb] at h2; cases h2
    | false => rfl
theorem ld_no {n s a b : Nat} (h1 : 1 ≤ n) (h6 : n ≤ 6) (ha : a < n) (h : ¬ ldG n s a b = 1) : ∃ t, t < 2 ^ n ∧ NC n s t ∧ t.testBit a ≠ t.testBit b := by
  have hg := codeG_graph (n := n) s h1 h6
  have hl := codeG_length n s
  have hE : ∀ v, v < (codeG n s).length → ent (codeG n s) v < 2 ^ (codeG n s).length := fun v hv => ent_lt (hg.2.2 v hv).1
  have hp : 2 ^ a < 2 ^ (codeG n s).length := Nat.pow_lt_pow_right (by omega) (by omega)
  refine ⟨reachN (codeG n s) (2 ^ a), ?_, ?_, ?_⟩
  · have := reaches_lt hp hE (codeG n s).length
    rw [hl] at this
    unfold reachN
    rw [hl]
    exact this
  · exact (closed_nc h1 h6).1 (reaches_closed (v := a) (by omega) (by simp) hp hE)
  · have h2 : (reachN (codeG n s) (2 ^ a)).testBit a = true := reaches_has _ _ _ a (by simp)
    rw [h2]
    intro h3
    apply h
    have h4 := h3.symm
    rw [Nat.testBit_eq_decide_div_mod_eq, decide_eq_true_eq] at h4
    exact h4
theorem linked_cut {n s : Nat} (h1 : 1 ≤ n) (h6 : n ≤ 6) : lkB n s = true ↔ ∀ t, NC n s t → ∀ v, v < n → t.testBit 0 = t.testBit v := by
  have hg := codeG_graph (n := n) s h1 h6
  have hl := codeG_length n s
  have hE : ∀ v, v < (codeG n s).length → ent (codeG n s) v < 2 ^ (codeG n s).length := fun v hv => ent_lt (hg.2.2 v hv).1
  have hE' := hE
  rw [hl] at hE'
  unfold lkB
  constructor
  · intro h t ht v hv
    have h := Nat.eq_of_beq_eq_true h
    have key : ∀ t, NC n s t → t.testBit 0 = true → t.testBit v = true := fun t ht h0 => by
      have hsub : Sub 1 t := fun j hj => by
        have e : j = 0 := by
          rw [show (1 : Nat) = 2 ^ 0 from rfl, Nat.testBit_two_pow] at hj
          have : 0 = j := by simpa using hj
          omega
        rw [e]; exact h0
      have := turns_in hsub ((closed_nc h1 h6).2 ht) n v
      rw [h] at this
      exact this (fullT_bit hv)
    cases h0 : t.testBit 0 with
    | true => exact (key t ht h0).symm
    | false =>
      have h2 := key (t ^^^ (2 ^ n - 1)) (ht.xor (NC.full h6 s)) (by rw [Nat.testBit_xor, h0, fullT_bit (by omega)]; rfl)
      rw [Nat.testBit_xor, fullT_bit hv] at h2
      cases htb : t.testBit v with
      | true => rw [htb] at h2; cases h2
      | false => rfl
  · intro h
    have hc := turns_closed (L := codeG n s) (by omega) hE
    rw [hl] at hc
    have hn := h _ ((closed_nc h1 h6).1 hc)
    have h0 : (turns (codeG n s) n).testBit 0 = true := turns_has _ _ 0 (by decide)
    have hlt := turns_lt (L := codeG n s) (m := n) h1 (fun v hv => hE' v (by omega)) n
    have e : turns (codeG n s) n = 2 ^ n - 1 := by
      refine Nat.eq_of_testBit_eq fun v => ?_
      by_cases hv : v < n
      · rw [fullT_bit hv, ← hn v hv, h0]
      · rw [fullT_no (by omega)]
        exact Nat.testBit_lt_two_pow (Nat.lt_of_lt_of_le hlt (Nat.pow_le_pow_right (by omega) (by omega)))
    rw [e]; exact Nat.beq_refl _

/-! ### counting cuts -/
def ncB (n s t : Nat) : Bool := (rows n).all fun e => !s.testBit (plc e) || (t.testBit e.1 == t.testBit e.2)
theorem ncB_iff {n s t : Nat} : ncB n s t = true ↔ NC n s t := by
  unfold ncB NC
  rw [List.all_eq_true]
  constructor
  · intro h e he hs
    have := h e he
    rw [hs] at this
    simpa using this
  · intro h e he
    cases hs : s.testBit (plc e) with
    | true => simpa using h e he hs
    | false => rfl
def cutsN (n s : Nat) : Nat := ((List.range (2 ^ n)).filter (ncB n s)).length
theorem filter_inv {N : Nat} {p q : Nat → Bool} (f : Nat → Nat) (h1 : ∀ t, t < N → f t < N) (h2 : ∀ t, f (f t) = t) (h3 : ∀ t, p t = true → q (f t) = true) : ((List.range N).filter p).length ≤ ((List.range N).filter q).length := by
  have hnd : (((List.range N).filter p).map f).Nodup := by
    refine List.Pairwise.map f (fun a b (hab : a ≠ b) hf => hab ?_) (List.nodup_range.filter p)
    have := congrArg f hf
    rwa [h2, h2] at this
  have h := nodup_len hnd (Q := (List.range N).filter q) (fun x hx => by
    obtain ⟨t, ht, rfl⟩ := List.mem_map.1 hx
    rw [List.mem_filter, List.mem_range] at ht ⊢
    exact ⟨h1 t ht.1, h3 t ht.2⟩)
  rwa [List.length_map] at h
theorem filter_split {l : List Nat} (p q : Nat → Bool) : (l.filter p).length = (l.filter fun t => p t && q t).length + (l.filter fun t => p t && !q t).length := by
  induction l with
  | nil => rfl
  | cons x l ih =>
    simp only [List.filter_cons]
    cases hp : p x <;> cases hq : q x <;> simp [ih] <;> omega
theorem cuts_half {n s : Nat} (h6 : n ≤ 6) {e : Nat × Nat} (he : e ∈ rows n) {t0 : Nat} (ht0 : t0 < 2 ^ n) (h0 : NC n s t0) (hx : t0.testBit e.1 ≠ t0.testBit e.2) :
    cutsN n s = 2 * cutsN n (s ||| 2 ^ plc e) := by
  have hpq : ∀ t, ncB n (s ||| 2 ^ plc e) t = (ncB n s t && (t.testBit e.1 == t.testBit e.2)) := fun t => by
    rw [Bool.eq_iff_iff, Bool.and_eq_true, ncB_iff, ncB_iff, beq_iff_eq]
    constructor
    · intro h
      refine ⟨fun e' he' hs => h e' he' (by rw [Nat.testBit_or, hs]; rfl), h e he (by rw [Nat.testBit_or, Nat.testBit_two_pow]; simp)⟩
    · rintro ⟨h1, h2⟩ e' he' hs
      rw [Nat.testBit_or, Nat.testBit_two_pow, Bool.or_eq_true] at hs
      rcases hs with hs | hs
      · exact h1 e' he' hs
      · have hpe : plc e = plc e' := by simpa using hs
        have g1 := (rows_plc ⟨n, by omega⟩ e he).1
        have g2 := (rows_plc ⟨n, by omega⟩ e' he').1
        dsimp only at g1 g2
        rw [← hpe, g1] at g2
        injection g2 with g2
        rw [← g2]; exact h2
  have hsp := filter_split (l := List.range (2 ^ n)) (ncB n s) (fun t => t.testBit e.1 == t.testBit e.2)
  have hlt : ∀ t, t < 2 ^ n → t ^^^ t0 < 2 ^ n := fun t ht => Nat.xor_lt_two_pow ht ht0
  have hinv : ∀ t, (t ^^^ t0) ^^^ t0 = t := fun t => by rw [Nat.xor_assoc, Nat.xor_self, Nat.xor_zero]
  have hnc : ∀ t, ncB n s t = true → ncB n s (t ^^^ t0) = true := fun t h => ncB_iff.2 ((ncB_iff.1 h).xor h0)
  have hfl : ∀ t, ((t ^^^ t0).testBit e.1 == (t ^^^ t0).testBit e.2) = !(t.testBit e.1 == t.testBit e.2) := fun t => by
    rw [Nat.testBit_xor, Nat.testBit_xor]
    cases t.testBit e.1 <;> cases t.testBit e.2 <;> cases h1 : t0.testBit e.1 <;> cases h2 : t0.testBit e.2 <;> simp_all
  have l1 := filter_inv (N := 2 ^ n) (p := fun t => ncB n s t && (t.testBit e.1 == t.testBit e.2)) (q := fun t => ncB n s t && !(t.testBit e.1 == t.testBit e.2)) (fun t => t ^^^ t0) hlt hinv (fun t h => by
    rw [Bool.and_eq_true] at h ⊢
    exact ⟨hnc t h.1, by rw [hfl, h.2]; rfl⟩)
  have l2 := filter_inv (N := 2 ^ n) (p := fun t => ncB n s t && !(t.testBit e.1 == t.testBit e.2)) (q := fun t => ncB n s t && (t.testBit e.1 == t.testBit e.2)) (fun t => t ^^^ t0) hlt hinv (fun t h => by
    rw [Bool.and_eq_true] at h ⊢
    exact ⟨hnc t h.1, by rw [hfl]; exact h.2⟩)
  have hf : ncB n (s ||| 2 ^ plc e) = fun t => ncB n s t && (t.testBit e.1 == t.testBit e.2) := funext hpq
  unfold cutsN
  rw [hf, hsp]
  omega

/-! ### edges one by one -/
structure Run (n : Nat) (es : List (Nat × Nat)) (F : Nat) : Prop where
  has : ∀ i, F.testBit i = true → ∃ e ∈ es, plc e = i
  span : ∀ t, NC n F t → ∀ e ∈ es, t.testBit e.1 = t.testBit e.2
  free : ∀ e ∈ es, F.testBit (plc e) = true → ∃ t : Nat, t.testBit e.1 ≠ t.testBit e.2 ∧ ∀ e' ∈ rows n, F.testBit (plc e') = true → e' ≠ e → t.testBit e'.1 = t.testBit e'.2
  many : cutsN n F * 2 ^ pcf 15 F = 2 ^ n
theorem plc_inj {n : Nat} (h6 : n ≤ 6) {e e' : Nat × Nat} (he : e ∈ rows n) (he' : e' ∈ rows n) (h : plc e = plc e') : e = e' := by
  have g1 := (rows_plc ⟨n, by omega⟩ e he).1
  have g2 := (rows_plc ⟨n, by omega⟩ e' he').1
  dsimp only at g1 g2
  rw [← h, g1] at g2
  injection g2
theorem run_all {n : Nat} (h1 : 1 ≤ n) (h6 : n ≤ 6) (es : List (Nat × Nat)) (hr : ∀ e ∈ es, e ∈ rows n) (ha : es.Pairwise (fun e e' => plc e < plc e')) : Run n es (frRun n es) := by
  induction es using snoc_ind with
  | h0 =>
    refine ⟨fun i h => (by rw [show frRun n [] = 0 from rfl, Nat.zero_testBit] at h; cases h), fun t _ e he => (by cases he), fun e he => (by cases he), ?_⟩
    have hall : ∀ t, ncB n 0 t = true := fun t => ncB_iff.2 fun e _ hs => by rw [Nat.zero_testBit] at hs; cases hs
    show cutsN n 0 * 2 ^ pcf 15 0 = 2 ^ n
    unfold cutsN
    rw [List.filter_eq_self.2 (fun t _ => hall t), List.length_range, pcf_zero]
    omega
  | h1 l x ih =>
    have hrl : ∀ e ∈ l, e ∈ rows n := fun e he => hr e (by simp [he])
    have hx : x ∈ rows n := hr x (by simp)
    rw [List.pairwise_append] at ha
    have R := ih hrl ha.1
    have hxl : ∀ e ∈ l, plc e < plc x := fun e he => ha.2.2 e he x (by simp)
    obtain ⟨_, hp15, hab, hbn⟩ := rows_plc ⟨n, by omega⟩ x hx
    dsimp only at hbn
    rw [frRun_snoc]
    obtain ⟨F, eF⟩ : ∃ F, F = frRun n l := ⟨_, rfl⟩
    rw [← eF] at R ⊢
    have hFx : ∀ i, F.testBit i = true → i < plc x := fun i hi => by
      obtain ⟨e, he, rfl⟩ := R.has i hi
      exact hxl e he
    have hFn : F.testBit (plc x) = false := by
      cases h : F.testBit (plc x) with
      | false => rfl
      | true => have := hFx _ h; omega
    unfold frStep
    split
    · rename_i hld
      refine ⟨fun i hi => ?_, fun t ht e he => ?_, fun e he hs => ?_, R.many⟩
      · obtain ⟨e, he, h⟩ := R.has i hi
        exact ⟨e, by simp [he], h⟩
      · rcases List.mem_append.1 he with he | he
        · exact R.span t ht e he
        · rw [List.mem_singleton.1 he]
          exact ld_yes h1 h6 (by omega) hbn hld ht
      · rcases List.mem_append.1 he with he | he
        · exact R.free e he hs
        · rw [List.mem_singleton.1 he, hFn] at hs; cases hs
    · rename_i hld
      obtain ⟨t0, ht0, h0, hcr⟩ := ld_no h1 h6 (show x.1 < n by omega) hld
      have hbit : ∀ i, (F ||| 2 ^ plc x).testBit i = true ↔ F.testBit i = true ∨ i = plc x := fun i => by
        rw [Nat.testBit_or, Nat.testBit_two_pow, Bool.or_eq_true, decide_eq_true_eq]
        constructor
        · rintro (h | h)
          · exact .inl h
          · exact .inr h.symm
        · rintro (h | h)
          · exact .inl h
          · exact .inr h.symm
      refine ⟨fun i hi => ?_, fun t ht e he => ?_, fun e he hs => ?_, ?_⟩
      · rcases (hbit i).1 hi with h | h
        · obtain ⟨e, he, h⟩ := R.has i h
          exact ⟨e, by simp [he], h⟩
        · exact ⟨x, by simp, h.symm⟩
      · have htF : NC n F t := fun e' he' hs => ht e' he' ((hbit _).2 (.inl hs))
        rcases List.mem_append.1 he with he | he
        · exact R.span t htF e he
        · rw [List.mem_singleton.1 he]
          exact ht x hx ((hbit _).2 (.inr rfl))
      · rcases List.mem_append.1 he with he | he
        · have hsF : F.testBit (plc e) = true := by
            rcases (hbit _).1 hs with h | h
            · exact h
            · have := hxl e he; omega
          obtain ⟨t, t1, t2⟩ := R.free e he hsF
          by_cases hc : t.testBit x.1 = t.testBit x.2
          · refine ⟨t, t1, fun e' he' hs' hne => ?_⟩
            rcases (hbit _).1 hs' with h | h
            · exact t2 e' he' h hne
            · rw [plc_inj h6 he' hx h]; exact hc
          · refine ⟨t ^^^ t0, ?_, fun e' he' hs' hne => ?_⟩
            · have h3 := h0 e (hrl e he) hsF
              rw [Nat.testBit_xor, Nat.testBit_xor, h3]
              intro h4
              apply t1
              cases h5 : t.testBit e.1 <;> cases h6 : t.testBit e.2 <;> cases h7 : t0.testBit e.2 <;> simp_all
            · rw [Nat.testBit_xor, Nat.testBit_xor]
              rcases (hbit _).1 hs' with h | h
              · rw [t2 e' he' h hne, h0 e' he' h]
              · rw [plc_inj h6 he' hx h]
                cases h5 : t.testBit x.1 <;> cases h6 : t.testBit x.2 <;> cases h7 : t0.testBit x.1 <;> cases h8 : t0.testBit x.2 <;> simp_all
        · rw [List.mem_singleton.1 he]
          refine ⟨t0, hcr, fun e' he' hs' hne => ?_⟩
          rcases (hbit _).1 hs' with h | h
          · exact h0 e' he' h
          · exact absurd (plc_inj h6 he' hx h) hne
      · have hlt : F < 2 ^ plc x := by
          refine Nat.lt_pow_two_of_testBit F fun i hi => ?_
          cases h : F.testBit i with
          | false => rfl
          | true => have := hFx i h; omega
        have hor : F ||| 2 ^ plc x = F + 1 * 2 ^ plc x := by
          rw [Nat.one_mul, Nat.or_comm, Nat.add_comm]
          have := Nat.two_pow_add_eq_or_of_lt hlt 1
          rw [Nat.mul_one] at this
          exact this.symm
        have hh := cuts_half h6 hx ht0 h0 hcr
        have hm := R.many
        rw [hh] at hm
        have hpc : pcf 15 (F ||| 2 ^ plc x) = pcf 15 F + 1 := by rw [hor]; exact pcf_add 15 (plc x) F 1 hp15 hlt (by omega)
        rw [hpc, Nat.pow_succ, ← hm, Nat.mul_comm 2 (cutsN n _), Nat.mul_assoc, Nat.mul_comm 2]
theorem frRun_sub (n : Nat) (es fs : List (Nat × Nat)) (i : Nat) (h : (frRun n es).testBit i = true) : (frRun n (es ++ fs)).testBit i = true := by
  induction fs using snoc_ind with
  | h0 => rwa [List.append_nil]
  | h1 l x ih =>
    rw [← List.append_assoc, frRun_snoc]
    unfold frStep
    split
    · exact ih
    · rw [Nat.testBit_or, ih]; rfl
theorem top_bit : ∀ (f x y : Nat), y < 2 ^ f → x < y → ∃ k, y.testBit k = true ∧ x.testBit k = false ∧ ∀ j, k < j → x.testBit j = y.testBit j
  | 0, x, y, hy, hxy => by rw [Nat.pow_zero] at hy; omega
  | f + 1, x, y, hy, hxy => by
    rw [Nat.pow_succ] at hy
    by_cases h : x / 2 < y / 2
    · obtain ⟨k, k1, k2, k3⟩ := top_bit f (x / 2) (y / 2) (by omega) h
      refine ⟨k + 1, by rw [Nat.testBit_succ]; exact k1, by rw [Nat.testBit_succ]; exact k2, fun j hj => ?_⟩
      obtain ⟨j', rfl⟩ : ∃ j', j = j' + 1 := ⟨j - 1, by omega⟩
      rw [Nat.testBit_succ, Nat.testBit_succ]
      exact k3 j' (by omega)
    · have e : x / 2 = y / 2 := by omega
      refine ⟨0, by rw [Nat.testBit_zero]; simp; omega, by rw [Nat.testBit_zero]; simp; omega, fun j hj => ?_⟩
      obtain ⟨j', rfl⟩ : ∃ j', j = j' + 1 := ⟨j - 1, by omega⟩
      rw [Nat.testBit_succ, Nat.testBit_succ, e]

theorem first_facts {L : List Int} (h : IsLinked L) : treeC L.length (frT L) = true ∧ frT L &&& codeOf L = frT L ∧ ∀ t, treeC L.length t = true → t < 2 ^ (L.length * (L.length - 1) / 2) → t &&& codeOf L = t → frT L ≤ t := by
  have g1 := h.1.1
  have g6 := h.1.2.1
  have eG := codeG_of h.1
  have hCb : ∀ e ∈ rows L.length, (codeOf L).testBit (plc e) = true ↔ bt L e.1 e.2 = 1 := fun e he => by
    have hp := (rows_plc ⟨L.length, by omega⟩ e he).1
    dsimp only at hp
    rw [Nat.testBit_eq_decide_div_mod_eq, decide_eq_true_eq, code_bit hp]
  have hlk : lkB L.length (codeOf L) = true := by unfold lkB; rw [eG, h.2]; exact Nat.beq_refl _
  have hfT : frT L = frRun L.length (edgesIn L (rows L.length)) := rfl
  have hes : ∀ e, e ∈ edgesIn L (rows L.length) ↔ e ∈ rows L.length ∧ (codeOf L).testBit (plc e) = true := fun e => by
    unfold edgesIn
    rw [List.mem_filter, beq_iff_eq]
    exact ⟨fun a => ⟨a.1, (hCb e a.1).2 a.2⟩, fun a => ⟨a.1, (hCb e a.1).1 a.2⟩⟩
  have hasc : (edgesIn L (rows L.length)).Pairwise (fun e e' => plc e < plc e') := by
    unfold edgesIn
    exact List.Pairwise.filter _ (rows_asc ⟨L.length, by omega⟩)
  obtain ⟨n, hn⟩ : ∃ n, n = L.length := ⟨_, rfl⟩
  rw [← hn] at g1 g6 hlk hfT hes hasc ⊢
  obtain ⟨C, eC⟩ : ∃ C, C = codeOf L := ⟨_, rfl⟩
  rw [← eC] at hlk hes ⊢
  obtain ⟨es, ees⟩ : ∃ es, es = edgesIn L (rows n) := ⟨_, rfl⟩
  rw [← ees] at hfT hes hasc
  have R := run_all g1 g6 es (fun e he => ((hes e).1 he).1) hasc
  rw [← hfT] at R
  have hconn := (linked_cut g1 g6).1 hlk
  have hF : ∀ t, NC n (frT L) t → ∀ v, v < n → t.testBit 0 = t.testBit v := fun t ht => hconn t fun e he hs => R.span t ht e ((hes e).2 ⟨he, hs⟩)
  have hFl : lkB n (frT L) = true := (linked_cut g1 g6).2 hF
  have hcuts : cutsN n (frT L) = 2 := by
    have hp : 2 ≤ 2 ^ n := Nat.le_trans (by decide : 2 ≤ 2 ^ 1) (Nat.pow_le_pow_right (by omega) g1)
    have a1 := nodup_len (P := [0, 2 ^ n - 1]) (Q := (List.range (2 ^ n)).filter (ncB n (frT L))) (by simp; omega) (fun x hx => by
      rw [List.mem_filter, List.mem_range]
      simp only [List.mem_cons, List.not_mem_nil, or_false] at hx
      rcases hx with rfl | rfl
      · exact ⟨by omega, ncB_iff.2 fun e _ _ => by rw [Nat.zero_testBit, Nat.zero_testBit]⟩
      · exact ⟨by omega, ncB_iff.2 (NC.full g6 _)⟩)
    have a2 := nodup_len (P := (List.range (2 ^ n)).filter (ncB n (frT L))) (Q := [0, 2 ^ n - 1]) (List.nodup_range.filter _) (fun x hx => by
      rw [List.mem_filter, List.mem_range] at hx
      have hc := hF x (ncB_iff.1 hx.2)
      simp only [List.mem_cons, List.not_mem_nil, or_false]
      have hhi : ∀ v, n ≤ v → x.testBit v = false := fun v hv => Nat.testBit_lt_two_pow (Nat.lt_of_lt_of_le hx.1 (Nat.pow_le_pow_right (by omega) hv))
      cases h0 : x.testBit 0 with
      | false =>
        refine .inl (Nat.eq_of_testBit_eq fun v => ?_)
        rw [Nat.zero_testBit]
        by_cases hv : v < n
        · rw [← hc v hv, h0]
        · exact hhi v (by omega)
      | true =>
        refine .inr (Nat.eq_of_testBit_eq fun v => ?_)
        by_cases hv : v < n
        · rw [← hc v hv, h0, fullT_bit hv]
        · rw [hhi v (by omega), fullT_no (by omega)])
    unfold cutsN
    simp only [List.length_cons, List.length_nil] at a1 a2
    omega
  have hpc : pcf 15 (frT L) + 1 = n := by
    have hm := R.many
    rw [hcuts, Nat.mul_comm, ← Nat.pow_succ] at hm
    rcases Nat.lt_trichotomy (pcf 15 (frT L) + 1) n with hlt | heq | hgt
    · have := Nat.pow_lt_pow_right (a := 2) (by omega) hlt
      omega
    · exact heq
    · have := Nat.pow_lt_pow_right (a := 2) (by omega) hgt
      omega
  have hsub : frT L &&& C = frT L := by
    refine Nat.eq_of_testBit_eq fun i => ?_
    rw [Nat.testBit_and]
    cases hi : (frT L).testBit i with
    | false => rfl
    | true =>
      obtain ⟨e, he, rfl⟩ := R.has i hi
      rw [((hes e).1 he).2]; rfl
  refine ⟨?_, hsub, fun S hS hSlt hSC => ?_⟩
  · unfold treeC
    rw [Bool.and_eq_true, hpc]
    exact ⟨Nat.beq_refl _, hFl⟩
  · unfold treeC at hS
    rw [Bool.and_eq_true] at hS
    have hSc := (linked_cut (s := S) g1 g6).1 hS.2
    rcases Nat.lt_or_ge S (frT L) with hlt | hge
    · exfalso
      obtain ⟨k, k1, k2, k3⟩ := top_bit (frT L) S (frT L) Nat.lt_two_pow_self hlt
      obtain ⟨e, he, hk⟩ := R.has k k1
      have heR := ((hes e).1 he).1
      obtain ⟨t, t1, t2⟩ := R.free e he (by rw [hk]; exact k1)
      obtain ⟨l1, l2, hl⟩ := List.append_of_mem he
      have hr1 : ∀ e' ∈ l1, e' ∈ rows n := fun e' h' => ((hes e').1 (by rw [hl]; simp [h'])).1
      rw [hl, List.pairwise_append] at hasc
      have R1 := run_all g1 g6 l1 hr1 hasc.1
      have hlow : ∀ e' ∈ l1, plc e' < plc e := fun e' h' => hasc.2.2 e' h' e (by simp)
      have hNC1 : NC n (frRun n l1) t := fun e' he' hs => by
        obtain ⟨e2, h2, hp2⟩ := R1.has _ hs
        have hne : e' ≠ e := fun h => by have := hlow e2 h2; rw [hp2, h] at this; omega
        refine t2 e' he' ?_ hne
        rw [hfT, hl]
        exact frRun_sub n l1 _ _ hs
      have hNS : NC n S t := fun e' he' hs => by
        rcases Nat.lt_trichotomy (plc e') k with hlt | heq | hgt
        · have hC : C.testBit (plc e') = true := by
            have h5 : (S &&& C).testBit (plc e') = true := by rw [hSC]; exact hs
            rw [Nat.testBit_and, Bool.and_eq_true] at h5
            exact h5.2
          have hm : e' ∈ l1 ++ e :: l2 := by rw [← hl]; exact (hes e').2 ⟨he', hC⟩
          have hm1 : e' ∈ l1 := by
            rcases List.mem_append.1 hm with h6 | h6
            · exact h6
            · rcases List.mem_cons.1 h6 with h7 | h7
              · rw [h7] at hlt; omega
              · have := (List.pairwise_cons.1 hasc.2.1).1 e' h7; omega
          exact R1.span t hNC1 e' hm1
        · rw [heq, k2] at hs; cases hs
        · refine t2 e' he' (by rw [← k3 _ hgt]; exact hs) (fun h => ?_)
          rw [h] at hgt; omega
      have hr := (rows_plc ⟨n, by omega⟩ e heR).2.2
      have hr1' : e.1 < e.2 := hr.1
      have hr2' : e.2 < n := hr.2
      exact t1 ((hSc t hNS e.1 (by omega)).symm.trans (hSc t hNS e.2 hr2'))
    · exact hge
end Go.Proofs.YtkngijkhhonikaaDoor
