/- What the promise on watching sets says. Plain mathematics. -/
import Derived.Test.YtfhaeocgbihddaaDoorPromSets
namespace Go.Proofs.YtfhaeocgbihddaaDoor
open Go Go.RowKit
set_option linter.unusedVariables false
set_option maxRecDepth 100000

theorem metTo_bit (L : List Int) (s k i : Nat) : (metTo L s k).testBit i = true ↔ s.testBit i = true ∨ ∃ w, w < k ∧ inS s w = true ∧ (ent L w).testBit i = true := by
  induction k with
  | zero =>
    show s.testBit i = true ↔ _
    constructor
    · exact .inl
    · rintro (h | ⟨w, h, _⟩)
      · exact h
      · omega
  | succ k ih =>
    rw [metTo_succ]
    unfold metStep
    by_cases hk : inS s k = true
    · rw [if_pos hk, Nat.testBit_or, Bool.or_eq_true, ih]
      constructor
      · rintro ((h | ⟨w, h1, h2, h3⟩) | h)
        · exact .inl h
        · exact .inr ⟨w, by omega, h2, h3⟩
        · exact .inr ⟨k, by omega, hk, h⟩
      · rintro (h | ⟨w, h1, h2, h3⟩)
        · exact .inl (.inl h)
        · by_cases hw : w = k
          · subst hw; exact .inr h3
          · exact .inl (.inr ⟨w, by omega, h2, h3⟩)
    · rw [if_neg hk, ih]
      constructor
      · rintro (h | ⟨w, h1, h2, h3⟩)
        · exact .inl h
        · exact .inr ⟨w, by omega, h2, h3⟩
      · rintro (h | ⟨w, h1, h2, h3⟩)
        · exact .inl h
        · by_cases hw : w = k
          · subst hw; exact absurd h2 hk
          · exact .inr ⟨w, by omega, h2, h3⟩
theorem wat_iff {L : List Int} (hg : IsGraph L) {s : Nat} (hs : s < 2 ^ L.length) : watB L s = true ↔ ∀ u, u < L.length → s.testBit u = true ∨ ∃ w, w < L.length ∧ s.testBit w = true ∧ bt L w u = 1 := by
  unfold watB
  rw [beq_iff_eq]
  have hl := metTo_lt hg hs L.length (Nat.le_refl _)
  have hp := two_pos L.length
  constructor
  · intro h u hu
    have h1 : (metTo L s L.length).testBit u = true := by rw [h, Nat.testBit_two_pow_sub_one]; simpa using hu
    rcases (metTo_bit L s L.length u).1 h1 with h2 | ⟨w, h2, h3, h4⟩
    · exact .inl h2
    · exact .inr ⟨w, h2, h3, (tb _ _).2 h4⟩
  · intro h
    refine Nat.eq_of_testBit_eq fun i => ?_
    rw [Nat.testBit_two_pow_sub_one]
    by_cases hi : i < L.length
    · rw [decide_eq_true hi]
      refine (metTo_bit L s L.length i).2 ?_
      rcases h i hi with h1 | ⟨w, h1, h2, h3⟩
      · exact .inl h1
      · exact .inr ⟨w, h1, h2, (tb _ _).1 h3⟩
    · rw [decide_eq_false hi, Nat.testBit_lt_two_pow (Nat.lt_of_lt_of_le hl (Nat.pow_le_pow_right (by omega) (by omega)))]
theorem watch_pos {L : List Int} (hg : IsGraph L) : 1 ≤ watchN L := by
  have h1 := hg.1
  obtain ⟨s, hs, hw, hm⟩ := szs_mem.1 (watch_min hg).2.1
  have hs2 : s < 2 ^ L.length := List.mem_range.1 hs
  refine Nat.pos_of_ne_zero fun h0 => ?_
  rw [h0] at hm
  have h64 := two_le hg.2.1
  have hz := pcf_pos (f := 15) (x := s) (by omega) hm
  subst hz
  rcases (wat_iff hg hs2).1 hw 0 (by omega) with h | ⟨w, _, h, _⟩
  · simp at h
  · simp at h
theorem free_meet2 {L : List Int} {S v w : Nat} (h : freeB L S = true) (hv : v < L.length) (hS : S.testBit v = true) (hw : S.testBit w = true) : bt L v w ≠ 1 := fun hb => by
  have h1 := List.all_eq_true.1 h v (List.mem_range.2 hv)
  unfold inS at h1
  rw [hS] at h1
  simp at h1
  exact meet_iff.2 ⟨w, hb, hw⟩ h1
theorem watch_free {L : List Int} (hg : IsGraph L) : watchN L ≤ mostN L := by
  have h6 := hg.2.1
  obtain ⟨S, hS, hf, hm⟩ := szs_mem.1 (most_max L).1
  have hS2 : S < 2 ^ L.length := List.mem_range.1 hS
  rw [← hm]
  refine (watch_min hg).2.2 _ (szs_mem.2 ⟨S, hS, (wat_iff hg hS2).2 fun u hu => ?_, rfl⟩)
  refine Classical.byContradiction fun hn => ?_
  have hu0 : S.testBit u = false := by
    cases hb : S.testBit u with
    | false => rfl
    | true => exact absurd (.inl hb) hn
  have hna : ∀ w, w < L.length → S.testBit w = true → bt L w u ≠ 1 := fun w h1 h2 h3 => hn (.inr ⟨w, h1, h2, h3⟩)
  have hbit : ∀ i, (S ||| 2 ^ u).testBit i = true ↔ S.testBit i = true ∨ i = u := fun i => by
    rw [Nat.testBit_or, Bool.or_eq_true, Nat.testBit_two_pow, decide_eq_true_eq]
    constructor
    · rintro (h | h)
      · exact .inl h
      · exact .inr h.symm
    · rintro (h | h)
      · exact .inl h
      · exact .inr h.symm
  have hlt : S ||| 2 ^ u < 2 ^ L.length := Nat.or_lt_two_pow hS2 (Nat.pow_lt_pow_right (by omega) hu)
  have hin : ∀ i, S.testBit i = true → i < L.length := fun i hi => by
    refine Nat.lt_of_not_le fun hl => ?_
    rw [Nat.testBit_lt_two_pow (Nat.lt_of_lt_of_le hS2 (Nat.pow_le_pow_right (by omega) hl))] at hi
    cases hi
  have hfree : freeB L (S ||| 2 ^ u) = true := by
    unfold freeB
    refine List.all_eq_true.2 fun v hv => ?_
    rw [List.mem_range] at hv
    cases hi : inS (S ||| 2 ^ u) v with
    | false => rfl
    | true =>
      rw [Bool.not_true, Bool.false_or, beq_iff_eq]
      refine Classical.byContradiction fun hne => ?_
      obtain ⟨w, h1, h2⟩ := meet_iff.1 hne
      rcases (hbit v).1 hi with a | a <;> rcases (hbit w).1 h2 with b | b
      · exact free_meet2 hf hv a b h1
      · subst b; exact hna v hv a h1
      · subst a
        exact hna w (hin w b) b (by rw [bt_sym hg (hin w b) hu]; exact h1)
      · rw [a, b] at h1
        have := (hg.2.2 u hu).2.1
        omega
  have h1 := (most_max L).2 _ (szs_mem.2 ⟨S ||| 2 ^ u, List.mem_range.2 hlt, hfree, rfl⟩)
  have h2 := pcf_or 15 S (2 ^ u)
  have h3 : S &&& 2 ^ u = 0 := by
    refine Nat.eq_of_testBit_eq fun i => ?_
    rw [Nat.testBit_and, Nat.testBit_two_pow, Nat.zero_testBit]
    by_cases hi : u = i
    · subst hi; rw [hu0]; rfl
    · rw [decide_eq_false hi, Bool.and_false]
  rw [h3, pcf_zero, pcf_two (by omega)] at h2
  omega
theorem watch_half {L : List Int} (hg : IsGraph L) (hi : ∀ v, v < L.length → ent L v ≠ 0) : 2 * watchN L ≤ L.length := by
  have h6 := hg.2.1
  have h64 := two_le h6
  have hp := two_pos L.length
  obtain ⟨s, hs, hw, hm⟩ := szs_mem.1 (watch_min hg).2.1
  have hs2 : s < 2 ^ L.length := List.mem_range.1 hs
  have hW := (wat_iff hg hs2).1 hw
  obtain ⟨o1, o2⟩ := out_facts h6 hs2
  have hc : ∀ i, i < L.length → (2 ^ L.length - 1 - s).testBit i = !s.testBit i := fun i hil => by
    rw [← o1, outS_bit (full64 h6) (by omega), Nat.testBit_two_pow_sub_one, decide_eq_true hil, Bool.true_and]
  have hcl : 2 ^ L.length - 1 - s < 2 ^ L.length := by omega
  have hcw : watB L (2 ^ L.length - 1 - s) = true := (wat_iff hg hcl).2 fun u hu => by
    rw [hc u hu]
    cases hus : s.testBit u with
    | false => exact .inl rfl
    | true =>
      refine .inr (Classical.byContradiction fun hn => ?_)
      have hall : ∀ w, w < L.length → bt L w u = 1 → s.testBit w = true := fun w hwl hb => by
        cases hws : s.testBit w with
        | true => rfl
        | false => exact absurd ⟨w, hwl, by rw [hc w hwl, hws]; rfl, hb⟩ hn
      obtain ⟨w0, hw0⟩ := Nat.exists_testBit_of_ne_zero (hi u hu)
      have hb0 : bt L u w0 = 1 := (tb _ _).2 hw0
      have hw0l := bt_lt hg hu hb0
      have hw0u : w0 ≠ u := fun e => by subst e; have := (hg.2.2 w0 hu).2.1; omega
      have hb0' : bt L w0 u = 1 := by rw [bt_sym hg hw0l hu]; exact hb0
      have hw0s := hall w0 hw0l hb0'
      have hu64 := pow64 (v := u) (by omega)
      have hb := outS_bit (N := s) (s := 2 ^ u) (by omega) hu64
      have hsl := outS_le s (2 ^ u)
      have hs' : watB L (outS s (2 ^ u)) = true := (wat_iff hg (by omega)).2 fun x hx => by
        by_cases hxu : x = u
        · subst hxu
          exact .inr ⟨w0, hw0l, by rw [hb, hw0s, Nat.testBit_two_pow, decide_eq_false (fun e => hw0u e.symm)]; rfl, hb0'⟩
        · rcases hW x hx with h1 | ⟨w, h1, h2, h3⟩
          · exact .inl (by rw [hb, h1, Nat.testBit_two_pow, decide_eq_false (fun e => hxu e.symm)]; rfl)
          · by_cases hwu : w = u
            · subst hwu
              have h4 := hall x hx (by rw [bt_sym hg hx hu]; exact h3)
              exact .inl (by rw [hb, h4, Nat.testBit_two_pow, decide_eq_false (fun e => hxu e.symm)]; rfl)
            · exact .inr ⟨w, h1, by rw [hb, h2, Nat.testBit_two_pow, decide_eq_false (fun e => hwu e.symm)]; rfl, h3⟩
      have h5 := (watch_min hg).2.2 _ (szs_mem.2 ⟨outS s (2 ^ u), List.mem_range.2 (by omega), hs', rfl⟩)
      have h7 := pcf_or 15 (outS s (2 ^ u)) (2 ^ u)
      have h8 : outS s (2 ^ u) ||| 2 ^ u = s := by
        refine Nat.eq_of_testBit_eq fun i => ?_
        rw [Nat.testBit_or, hb, Nat.testBit_two_pow]
        by_cases hiu : u = i
        · subst hiu; rw [hus]; simp
        · rw [decide_eq_false hiu]; simp
      have h9 : outS s (2 ^ u) &&& 2 ^ u = 0 := by
        refine Nat.eq_of_testBit_eq fun i => ?_
        rw [Nat.testBit_and, hb, Nat.testBit_two_pow, Nat.zero_testBit]
        by_cases hiu : u = i
        · subst hiu; simp
        · rw [decide_eq_false hiu]; simp
      rw [h8, h9, pcf_zero, pcf_two (by omega)] at h7
      omega
  have h10 := (watch_min hg).2.2 _ (szs_mem.2 ⟨2 ^ L.length - 1 - s, List.mem_range.2 hcl, hcw, rfl⟩)
  omega
/-- Whether a node up to some place has no neighbour, as the law finds it. -/
def alB (L : List Int) : Nat → Bool
  | 0 => false
  | k + 1 => alB L k || L[k]?.getD 0 == 0
theorem al_iff (L : List Int) (k : Nat) : alB L k = true ↔ ∃ j, j < k ∧ L[j]?.getD 0 = 0 := by
  induction k with
  | zero => simp [alB]
  | succ k ih =>
    show (alB L k || L[k]?.getD 0 == 0) = true ↔ _
    rw [Bool.or_eq_true, ih, beq_iff_eq]
    constructor
    · rintro (⟨j, h1, h2⟩ | h)
      · exact ⟨j, by omega, h2⟩
      · exact ⟨k, by omega, h⟩
    · rintro ⟨j, h1, h2⟩
      by_cases hj : j = k
      · subst hj; exact .inr h2
      · exact .inl ⟨j, by omega, h2⟩
theorem watch_al {L : List Int} (hg : IsGraph L) : alB L L.length = true ∨ 2 * watchN L ≤ L.length := by
  cases h : alB L L.length with
  | true => exact .inl rfl
  | false =>
    refine .inr (watch_half hg fun v hv h0 => ?_)
    have : alB L L.length = true := (al_iff L L.length).2 ⟨v, hv, by rw [ent_int (hg.2.2 v hv).1, h0]; rfl⟩
    rw [h] at this
    cases this
end Go.Proofs.YtfhaeocgbihddaaDoor
