/- Sorted terms: texts in order, brackets around them, the texts of the parts of a tidy term. -/
import Derived.Test.YtkninejoliclcaaDoorBaseA
namespace Go.Proofs.YtkninejoliclcaaDoor
set_option linter.unusedVariables false
set_option maxRecDepth 100000

/-- Texts in order. -/
def srt (L : List (List UInt8)) : List (List UInt8) := L.mergeSort fun x y => decide (x ≤ y)
theorem srt_perm (L : List (List UInt8)) : (srt L).Perm L := List.mergeSort_perm L _
theorem srt_length (L : List (List UInt8)) : (srt L).length = L.length := List.length_mergeSort L
theorem le_tot (x y : List UInt8) : x ≤ y ∨ y ≤ x := List.le_total x y
theorem le_tr {x y z : List UInt8} (h : x ≤ y) (k : y ≤ z) : x ≤ z := List.le_trans h k
theorem le_anti {x y : List UInt8} (h : x ≤ y) (k : y ≤ x) : x = y := List.le_antisymm h k
theorem srt_pair (L : List (List UInt8)) : (srt L).Pairwise (· ≤ ·) := by
  have h := List.pairwise_mergeSort (le := fun x y : List UInt8 => decide (x ≤ y)) (fun a b c h1 h2 => by simp at *; exact le_tr h1 h2) (fun a b => by simp; exact le_tot a b) L
  exact h.imp (fun h => by simpa using h)
theorem srt_of {xs ys : List (List UInt8)} (hp : ys.Perm xs) (hs : ys.Pairwise (· ≤ ·)) : ys = srt xs :=
  List.Perm.eq_of_pairwise (le := fun x y : List UInt8 => x ≤ y) (fun a b _ _ h1 h2 => le_anti h1 h2) hs (srt_pair xs) (hp.trans (srt_perm xs).symm)

/-- How many of a list, from its end on, are greater than a text: what stands ahead of them. -/
def insK (s : List UInt8) (L : List (List UInt8)) : Nat → Nat
  | 0 => 0
  | k + 1 => if s < (L[k]?.getD []) then insK s L k else k + 1
theorem insK_le (s : List UInt8) (L : List (List UInt8)) : ∀ k, insK s L k ≤ k
  | 0 => Nat.le_refl 0
  | k + 1 => by
    unfold insK
    split
    · exact Nat.le_succ_of_le (insK_le s L k)
    · exact Nat.le_refl _
/-- A text put into a list in order. -/
def insT (L : List (List UInt8)) (s : List UInt8) : List (List UInt8) := L.take (insK s L L.length) ++ s :: L.drop (insK s L L.length)
theorem insK_low (s : List UInt8) (L : List (List UInt8)) (hL : L.Pairwise (· ≤ ·)) : ∀ k, k ≤ L.length → (∀ i (h : i < L.length), insK s L k ≤ i → i < k → s ≤ L[i]) ∧ (∀ i (h : i < L.length), i < insK s L k → L[i] ≤ s)
  | 0, _ => ⟨fun i _ _ h => absurd h (by omega), fun i _ h => absurd h (by unfold insK; omega)⟩
  | k + 1, hk => by
    have hkl : k < L.length := by omega
    have e : L[k]?.getD [] = L[k] := by simp [hkl]
    unfold insK
    rw [e]
    by_cases h : s < L[k]
    · rw [if_pos h]
      obtain ⟨h1, h2⟩ := insK_low s L hL k (by omega)
      refine ⟨fun i hi ha hb => ?_, h2⟩
      by_cases hik : i = k
      · subst hik; exact List.le_of_lt h
      · exact h1 i hi ha (by omega)
    · rw [if_neg h]
      refine ⟨fun i hi ha hb => absurd ha (by omega), fun i hi hb => ?_⟩
      have h3 : L[k] ≤ s := List.not_lt.1 h
      by_cases hik : i = k
      · subst hik; exact h3
      · exact le_tr (List.pairwise_iff_getElem.1 hL i k hi hkl (by omega)) h3
theorem insT_pair (L : List (List UInt8)) (s : List UInt8) (hL : L.Pairwise (· ≤ ·)) : (insT L s).Pairwise (· ≤ ·) := by
  obtain ⟨h1, h2⟩ := insK_low s L hL L.length (Nat.le_refl _)
  have hk := insK_le s L L.length
  unfold insT
  obtain ⟨k, ek⟩ : ∃ k, k = insK s L L.length := ⟨_, rfl⟩
  rw [← ek] at h1 h2 hk ⊢
  have hlow : ∀ a ∈ L.take k, a ≤ s := fun a ha => by
    obtain ⟨i, hi, rfl⟩ := List.mem_take_iff_getElem.1 ha
    exact h2 i (by omega) (by omega)
  have hup : ∀ b ∈ L.drop k, s ≤ b := fun b hb => by
    obtain ⟨i, hi, rfl⟩ := List.mem_drop_iff_getElem.1 hb
    exact h1 (k + i) (by omega) (by omega) (by omega)
  rw [List.pairwise_append]
  refine ⟨hL.sublist (List.take_sublist k L), List.pairwise_cons.2 ⟨hup, hL.sublist (List.drop_sublist k L)⟩, fun a ha b hb => ?_⟩
  rcases List.mem_cons.1 hb with rfl | hb
  · exact hlow a ha
  · exact le_tr (hlow a ha) (hup b hb)
theorem insT_perm (L : List (List UInt8)) (s : List UInt8) : (insT L s).Perm (L ++ [s]) := by
  unfold insT
  have h : (L.take (insK s L L.length) ++ s :: L.drop (insK s L L.length)).Perm (s :: (L.take (insK s L L.length) ++ L.drop (insK s L L.length))) := List.perm_middle
  rw [List.take_append_drop] at h
  exact h.trans (List.perm_append_singleton s L).symm
theorem insT_srt (L : List (List UInt8)) (s : List UInt8) : insT (srt L) s = srt (L ++ [s]) :=
  srt_of ((insT_perm _ s).trans ((srt_perm L).append_right [s])) (insT_pair _ s (srt_pair L))
theorem srt_nil : srt [] = [] := by simp [srt]

/-- Brackets around texts, the last ones the innermost. -/
def joinT (s : Bool) : List (List UInt8) → List UInt8
  | [] => []
  | [x] => x
  | x :: y :: r => 40 :: (x ++ sgB s :: (joinT s (y :: r) ++ [41]))
theorem joinT_cons (s : Bool) (x : List UInt8) (r : List (List UInt8)) (h : r ≠ []) : joinT s (x :: r) = 40 :: (x ++ sgB s :: (joinT s r ++ [41])) := by
  cases r with
  | nil => exact absurd rfl h
  | cons y r => rfl

/-- The sorted texts of the parts of a tidy term at a sign; they are not in order. -/
def Tm.tx : Tm → Bool → List (List UInt8)
  | .one, _ => [[49]]
  | .neg _, _ => [[49]]
  | .par s a b, k => if s = k then a.tx k ++ b.tx k else [joinT s (srt (a.tx s ++ b.tx s))]
/-- The sorted text of a tidy term. -/
def Tm.stx : Tm → List UInt8
  | .one => [49]
  | .neg _ => [49]
  | .par s a b => joinT s (srt (a.tx s ++ b.tx s))
/-- The parts of a tidy term at a sign. -/
def Tm.pts : Tm → Bool → List Tm
  | .one, _ => [.one]
  | .neg a, _ => [.neg a]
  | .par s a b, k => if s = k then a.pts k ++ b.pts k else [.par s a b]
theorem Tm.tx_pts : ∀ (t : Tm) (k : Bool), t.tx k = (t.pts k).map Tm.stx
  | .one, _ => rfl
  | .neg _, _ => rfl
  | .par s a b, k => by
    unfold Tm.tx Tm.pts
    split
    · rw [List.map_append, a.tx_pts k, b.tx_pts k]
    · rfl
theorem Tm.pts_ne : ∀ (t : Tm) (k : Bool), t.pts k ≠ []
  | .one, _ => by simp [Tm.pts]
  | .neg _, _ => by simp [Tm.pts]
  | .par s a b, k => by
    unfold Tm.pts
    split
    · exact fun h => a.pts_ne k (List.append_eq_nil_iff.1 h).1
    · simp
theorem Tm.pts_mem : ∀ (t : Tm) (k : Bool) (p : Tm), p ∈ t.pts k → p.ones ≤ t.ones ∧ (t.tidy → p.tidy) ∧ (∀ s a b, p = .par s a b → s ≠ k)
  | .one, _, p, h => by simp [Tm.pts] at h; subst h; exact ⟨Nat.le_refl _, id, fun s a b e => by cases e⟩
  | .neg x, _, p, h => by simp [Tm.pts] at h; subst h; exact ⟨Nat.le_refl _, id, fun s a b e => by cases e⟩
  | .par s a b, k, p, h => by
    unfold Tm.pts at h
    by_cases hs : s = k
    · rw [if_pos hs] at h
      rcases List.mem_append.1 h with h | h
      · obtain ⟨h1, h2, h3⟩ := a.pts_mem k p h
        exact ⟨Nat.le_trans h1 (Nat.le_add_right _ _), fun t => h2 t.1, h3⟩
      · obtain ⟨h1, h2, h3⟩ := b.pts_mem k p h
        exact ⟨Nat.le_trans h1 (Nat.le_add_left _ _), fun t => h2 t.2, h3⟩
    · rw [if_neg hs, List.mem_singleton] at h
      subst h
      exact ⟨Nat.le_refl _, id, fun s' a' b' e => by cases e; exact hs⟩
theorem Tm.pts_less (s : Bool) (a b : Tm) (p : Tm) (h : p ∈ (Tm.par s a b).pts s) : p.ones < (Tm.par s a b).ones := by
  unfold Tm.pts at h
  rw [if_pos rfl] at h
  have h1 := a.ones_pos
  have h2 := b.ones_pos
  show p.ones < a.ones + b.ones
  rcases List.mem_append.1 h with h | h
  · have := (a.pts_mem s p h).1; omega
  · have := (b.pts_mem s p h).1; omega
theorem Tm.pts_len : ∀ (t : Tm) (k : Bool), (t.pts k).length ≤ t.ones
  | .one, _ => Nat.le_refl 1
  | .neg a, _ => a.ones_pos
  | .par s a b, k => by
    unfold Tm.pts
    have h1 := a.pts_len k
    have h2 := b.pts_len k
    have h3 := a.ones_pos
    split
    · rw [List.length_append]; exact Nat.add_le_add h1 h2
    · show 1 ≤ a.ones + b.ones; omega

end Go.Proofs.YtkninejoliclcaaDoor
