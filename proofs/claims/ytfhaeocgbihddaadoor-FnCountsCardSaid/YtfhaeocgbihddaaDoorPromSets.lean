/- What the promises on free sets, matchings and lines say. Plain mathematics. -/
import Derived.Test.YtfhaeocgbihddaaDoorMatchMax
namespace Go.Proofs.YtfhaeocgbihddaaDoor
open Go Go.RowKit
set_option linter.unusedVariables false
set_option maxRecDepth 100000

theorem mat_es {L : List Int} (hg : IsGraph L) : ∃ es : List (Nat × Nat), (∀ e ∈ es, e ∈ edgesIn L (rows L.length)) ∧ Apart es ∧ es.length = matN L := by
  have h6 := hg.2.1
  have hp := two_pos L.length
  obtain ⟨es, e1, e2, e3⟩ := mat_lower h6 64 (2 ^ L.length - 1) (full64 h6) (full64 h6) (by omega)
  exact ⟨es, of_eds e1, e2, e3⟩
theorem mat_half {L : List Int} (hg : IsGraph L) : 2 * matN L ≤ L.length := by
  obtain ⟨es, h1, h2, h3⟩ := mat_es hg
  have hr := edges_rows h1
  have hc := (nd_count (rows_prs hg.2.1 hr)).2.2 h2
  have hm := pcf_mono (f := 15) (nd_full hr)
  rw [pcf_full hg.2.1] at hm
  omega
theorem edges_len {L : List Int} (hg : IsGraph L) : edgesN L = (edgesIn L (rows L.length)).length := pc_crun L _ (rows_length _ hg.2.1)
theorem mat_zero {L : List Int} (hg : IsGraph L) : matN L = 0 ↔ edgesN L = 0 := by
  rw [edges_len hg]
  constructor
  · intro h
    cases he : edgesIn L (rows L.length) with
    | nil => rfl
    | cons e es =>
      have h1 := mat_upper hg.2.1 64 (2 ^ L.length - 1) (full64 hg.2.1) (full64 hg.2.1) [e] (eds_of hg fun f hf => by rw [List.mem_singleton.1 hf, he]; simp) (List.pairwise_singleton _ _)
      have h2 : matR L 64 (2 ^ L.length - 1) = 0 := h
      rw [h2] at h1
      simp at h1
  · intro h
    obtain ⟨es, h1, _, h3⟩ := mat_es hg
    rw [← h3]
    cases es with
    | nil => rfl
    | cons e es =>
      have := h1 e (by simp)
      rw [List.length_eq_zero_iff.1 h] at this
      cases this
theorem pcf_two {k : Nat} (hk : k < 15) : pcf 15 (2 ^ k) = 1 := by
  have h3 := pcf_add 15 k 0 1 hk (Nat.two_pow_pos _) (by omega)
  rw [Nat.zero_add, Nat.one_mul, pcf_zero] at h3
  exact h3
theorem pcf_or_le (x y : Nat) : pcf 15 (x ||| y) ≤ pcf 15 x + pcf 15 y := by have := pcf_or 15 x y; omega
/-- A free set has at most one node of each edge. -/
theorem free_meet {S : Nat} (es : List (Nat × Nat)) (hp : Prs es) (hf : ∀ e ∈ es, ¬ (S &&& (2 ^ e.1 ||| 2 ^ e.2) = (2 ^ e.1 ||| 2 ^ e.2))) : pcf 15 (S &&& nd es) ≤ es.length := by
  induction es with
  | nil => show pcf 15 (S &&& 0) ≤ 0; rw [Nat.and_zero, pcf_zero]; exact Nat.le_refl _
  | cons e es ih =>
    have h1 := ih (fun f hf' => hp f (by simp [hf'])) (fun f hf' => hf f (by simp [hf']))
    have h2 := hf e (by simp)
    have h3 := hp e (by simp)
    have h4 : S &&& nd (e :: es) = (S &&& ePr e) ||| (S &&& nd es) := by
      refine Nat.eq_of_testBit_eq fun i => ?_
      show (S &&& (ePr e ||| nd es)).testBit i = _
      rw [Nat.testBit_or, Nat.testBit_and, Nat.testBit_and, Nat.testBit_and, Nat.testBit_or]
      cases S.testBit i <;> simp
    have h5 : pcf 15 (S &&& ePr e) ≤ 1 := by
      rw [ends_iff] at h2
      have h6 : inS S e.1 = false ∨ inS S e.2 = false := by
        cases ha : inS S e.1 with
        | false => exact .inl rfl
        | true =>
          cases hb : inS S e.2 with
          | false => exact .inr rfl
          | true => exact absurd ⟨ha, hb⟩ h2
      have key : ∀ i, (S &&& ePr e).testBit i = true → S.testBit i = true ∧ (i = e.1 ∨ i = e.2) := fun i hi => by
        rw [Nat.testBit_and, Bool.and_eq_true, show e = (e.1, e.2) from rfl, ends_bit] at hi
        exact hi
      rcases h6 with h6 | h6
      · rw [← pcf_two (k := e.2) (by omega)]
        refine pcf_mono (Nat.eq_of_testBit_eq fun i => ?_)
        rw [Nat.testBit_and, Nat.testBit_two_pow]
        cases hb : (S &&& ePr e).testBit i with
        | false => rfl
        | true =>
          obtain ⟨k1, k2⟩ := key i hb
          rcases k2 with k2 | k2
          · rw [k2] at k1; unfold inS at h6; rw [h6] at k1; cases k1
          · simp [k2]
      · rw [← pcf_two (k := e.1) (by omega)]
        refine pcf_mono (Nat.eq_of_testBit_eq fun i => ?_)
        rw [Nat.testBit_and, Nat.testBit_two_pow]
        cases hb : (S &&& ePr e).testBit i with
        | false => rfl
        | true =>
          obtain ⟨k1, k2⟩ := key i hb
          rcases k2 with k2 | k2
          · simp [k2]
          · rw [k2] at k1; unfold inS at h6; rw [h6] at k1; cases k1
    have h7 := pcf_or_le (S &&& ePr e) (S &&& nd es)
    rw [h4, List.length_cons]
    omega
theorem free_lines {L : List Int} (hg : IsGraph L) : mostN L + matN L ≤ L.length := by
  have h6 := hg.2.1
  obtain ⟨es, h1, h2, h3⟩ := mat_es hg
  have hr := edges_rows h1
  have hp := rows_prs h6 hr
  have hc := (nd_count hp).2.2 h2
  obtain ⟨S, hS, hf, hm⟩ := szs_mem.1 (most_max L).1
  have hS2 : S < 2 ^ L.length := List.mem_range.1 hS
  have hfr := (free_iff hg S).1 hf
  have h4 := free_meet (S := S) es hp fun e he => hfr e (h1 e he)
  have h5 := pcf_or 15 S (nd es)
  have hnf := nd_full hr
  have hfl := pcf_full h6
  have h7 : pcf 15 (S ||| nd es) ≤ pcf 15 (2 ^ L.length - 1) := by
    refine pcf_mono (Nat.eq_of_testBit_eq fun i => ?_)
    rw [Nat.testBit_and, Nat.testBit_two_pow_sub_one]
    by_cases hi : i < L.length
    · rw [decide_eq_true hi, Bool.and_true]
    · have a1 : S.testBit i = false := Nat.testBit_lt_two_pow (Nat.lt_of_lt_of_le hS2 (Nat.pow_le_pow_right (by omega) (by omega)))
      have a2 : (nd es).testBit i = false := by
        rw [← hnf, Nat.testBit_and, Nat.testBit_two_pow_sub_one, decide_eq_false hi, Bool.and_false]
      rw [Nat.testBit_or, a1, a2]; rfl
  omega
end Go.Proofs.YtfhaeocgbihddaaDoor
