/- What the promise on the numbers of free sets says. Plain mathematics. -/
import Derived.Test.YtfhaeocgbihddaaDoorPromWatch
namespace Go.Proofs.YtfhaeocgbihddaaDoor
open Go Go.RowKit
set_option linter.unusedVariables false
set_option maxRecDepth 100000

theorem cntR_count (M : Nat) (ks : List Nat) (i : Nat) (hi : i < M) : (cntR M ks)[i]?.getD 0 = (ks.filter (fun k => k == i)).length := by
  induction ks using snoc_ind with
  | h0 => unfold cntR; simp [hi]
  | h1 l x ih =>
    rw [cntR_snoc, List.filter_append, List.length_append, ← ih]
    unfold cntStep
    rw [List.getElem?_set, cntR_length]
    by_cases hx : x = i
    · subst hx
      rw [if_pos rfl, if_pos hi]
      simp
    · rw [if_neg hx]
      simp [hx]
theorem counts_at {L : List Int} {i : Nat} (hi : i < mostN L + 1) : (cntR (mostN L + 1) (szs (freeB L) (allS L.length)))[i]?.getD 0 = (((allS L.length).filter (fun s => pcf 15 s == i)).filter (freeB L)).length := by
  rw [cntR_count _ _ _ hi]
  unfold szs
  rw [List.filter_map, List.length_map, List.filter_filter, List.filter_filter]
  refine congrArg List.length (List.filter_congr fun s _ => ?_)
  simp only [Function.comp]
  cases freeB L s <;> cases (pcf 15 s == i) <;> rfl
theorem size_lists : ∀ n : Fin 7, (allS n.val).filter (fun s => pcf 15 s == 0) = [0] ∧ (allS n.val).filter (fun s => pcf 15 s == 1) = (List.range n.val).map (fun v => 2 ^ v) ∧
    (allS n.val).filter (fun s => pcf 15 s == 2) = (rows n.val).map ePr ∧ (rows n.val).length = n.val * (n.val - 1) / 2 := by decide +kernel
theorem free_one {L : List Int} (hg : IsGraph L) {u : Nat} (hu : u < L.length) : freeB L (2 ^ u) = true := by
  refine List.all_eq_true.2 fun v hv => ?_
  rw [List.mem_range] at hv
  cases hi : inS (2 ^ u) v with
  | false => rfl
  | true =>
    rw [Bool.not_true, Bool.false_or, beq_iff_eq]
    refine Classical.byContradiction fun hne => ?_
    obtain ⟨w, h1, h2⟩ := meet_iff.1 hne
    unfold inS at hi h2
    rw [Nat.testBit_two_pow, decide_eq_true_eq] at hi h2
    subst hi; subst h2
    have := (hg.2.2 u hu).2.1
    omega
theorem free_pair {L : List Int} (hg : IsGraph L) {p : Nat × Nat} (hp : p ∈ rows L.length) : freeB L (ePr p) = !(bt L p.1 p.2 == 1) := by
  obtain ⟨h1, h2⟩ := rows_mem _ p hp
  have hb : ∀ i, (ePr p).testBit i = true ↔ i = p.1 ∨ i = p.2 := fun i => by rw [show p = (p.1, p.2) from rfl]; exact ends_bit _ _ _
  by_cases he : bt L p.1 p.2 = 1
  · rw [he]
    show freeB L (ePr p) = false
    cases hf : freeB L (ePr p) with
    | false => rfl
    | true => exact absurd he (free_meet2 hf (by omega) ((hb p.1).2 (.inl rfl)) ((hb p.2).2 (.inr rfl)))
  · have e2 : (bt L p.1 p.2 == 1) = false := by simpa using he
    rw [e2, Bool.not_false]
    refine List.all_eq_true.2 fun v hv => ?_
    rw [List.mem_range] at hv
    cases hi : inS (ePr p) v with
    | false => rfl
    | true =>
      rw [Bool.not_true, Bool.false_or, beq_iff_eq]
      refine Classical.byContradiction fun hne => ?_
      obtain ⟨w, k1, k2⟩ := meet_iff.1 hne
      have a1 := (hb v).1 hi
      have a2 := (hb w).1 k2
      rcases a1 with a1 | a1 <;> rcases a2 with a2 | a2
      · rw [a1, a2] at k1; have := (hg.2.2 p.1 (by omega)).2.1; omega
      · rw [a1, a2] at k1; exact he k1
      · rw [a1, a2, bt_sym hg (by omega) (by omega)] at k1; exact he k1
      · rw [a1, a2] at k1; have := (hg.2.2 p.2 (by omega)).2.1; omega
theorem filter_not_len {α : Type} (p : α → Bool) (l : List α) : (l.filter fun x => !p x).length + (l.filter p).length = l.length := by
  induction l with
  | nil => rfl
  | cons x l ih => cases h : p x <;> simp [h] <;> omega
/-- The first three numbers of free sets. -/
theorem counts_first {L : List Int} (hg : IsGraph L) : 1 ≤ mostN L ∧ (cntR (mostN L + 1) (szs (freeB L) (allS L.length)))[0]?.getD 0 = 1 ∧ (cntR (mostN L + 1) (szs (freeB L) (allS L.length)))[1]?.getD 0 = L.length ∧
    (2 ≤ mostN L → (cntR (mostN L + 1) (szs (freeB L) (allS L.length)))[2]?.getD 0 + edgesN L = L.length * (L.length - 1) / 2) := by
  have h6 := hg.2.1
  have h1 := hg.1
  obtain ⟨s0, s1, s2, s3⟩ := size_lists ⟨L.length, by omega⟩
  dsimp only at s0 s1 s2 s3
  have hm : 1 ≤ mostN L := by
    have := (most_max L).2 _ (szs_mem.2 ⟨2 ^ 0, List.mem_range.2 (Nat.pow_lt_pow_right (by omega) (by omega)), free_one hg (by omega), rfl⟩)
    rw [pcf_two (by omega)] at this
    exact this
  refine ⟨hm, ?_, ?_, fun h2 => ?_⟩
  · rw [counts_at (by omega), s0]
    simp [free_none L]
  · rw [counts_at (by omega), s1]
    rw [List.filter_eq_self.2 (fun s hs => by
      obtain ⟨v, hv, rfl⟩ := List.mem_map.1 hs
      exact free_one hg (List.mem_range.1 hv))]
    rw [List.length_map, List.length_range]
  · rw [counts_at (by omega), s2, List.filter_map, List.length_map, edges_len hg, ← s3]
    have e : (rows L.length).filter (freeB L ∘ ePr) = (rows L.length).filter (fun p : Nat × Nat => !(bt L p.1 p.2 == 1)) := List.filter_congr fun p hp => free_pair hg hp
    rw [e]
    exact filter_not_len (fun p : Nat × Nat => bt L p.1 p.2 == 1) _
end Go.Proofs.YtfhaeocgbihddaaDoor
