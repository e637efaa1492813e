/- How many different colours there are, and when more come. Plain mathematics, no condition. -/
import Derived.Test.YtnnobbbljpaieaaDoorFinerMath
namespace Go.Proofs.YtnnobbbljpaieaaDoor
open Go Go.RowKit
set_option linter.unusedVariables false
set_option maxRecDepth 100000

theorem rank_lt {Ls : List (List Int)} {K M : List Int} (hK : K ∈ Ls) (h : cmpL K M < 0) : rankOf Ls K < rankOf Ls M := by
  unfold rankOf
  have hm : K ∈ ddp Ls := (ddp_mem Ls K).2 hK
  have key : ∀ l : List (List Int), K ∈ l → l.countP (fun x => decide (cmpL x K < 0)) < l.countP (fun x => decide (cmpL x M < 0)) := by
    have le : ∀ l : List (List Int), l.countP (fun x => decide (cmpL x K < 0)) ≤ l.countP (fun x => decide (cmpL x M < 0)) := fun l =>
      List.countP_mono_left fun x _ hx => decide_eq_true (cmpL_trans (of_decide_eq_true hx) h)
    intro l
    induction l with
    | nil => intro h; cases h
    | cons x l ih =>
      intro hx
      rcases List.mem_cons.1 hx with e | e
      · subst e
        rw [List.countP_cons_of_neg (by rw [cmpL_self]; decide), List.countP_cons_of_pos (by exact decide_eq_true h)]
        have := le l
        omega
      · have h1 := ih e
        rw [List.countP_cons, List.countP_cons]
        by_cases hxK : cmpL x K < 0
        · have hxM := cmpL_trans hxK h
          simp only [hxK, hxM, decide_true, if_true]
          omega
        · simp only [hxK, decide_false, Bool.false_eq_true, if_false]
          split <;> omega
  exact key _ hm
theorem rank_inj {Ls : List (List Int)} {K M : List Int} (hK : K ∈ Ls) (hM : M ∈ Ls) (h : rankOf Ls K = rankOf Ls M) : K = M := by
  by_cases e : cmpL K M = 0
  · exact cmpL_eq e
  · by_cases h1 : cmpL K M < 0
    · have := rank_lt hK h1; omega
    · have h2 : cmpL M K < 0 := by rw [cmpL_swap]; omega
      have := rank_lt hM h2
      omega
theorem look_mem (L C : List Int) {v : Nat} (hv : v < L.length) : lookOf L C v ∈ looksL L C := List.mem_map.2 ⟨v, List.mem_range.2 hv, rfl⟩
/-- Finer colours part what was parted. -/
theorem finer_parts {L C : List Int} {a b : Nat} (ha : a < L.length) (hb : b < L.length) (h : hue (finerL L C) a = hue (finerL L C) b) : hue C a = hue C b := by
  unfold hue at h
  rw [finerL_get L C ha, finerL_get L C hb] at h
  have h1 : rankOf (looksL L C) (lookOf L C a) = rankOf (looksL L C) (lookOf L C b) := by omega
  have h2 := rank_inj (look_mem L C ha) (look_mem L C hb) h1
  unfold lookOf at h2
  injection h2
theorem finer_hues {L C : List Int} (hn : L.length ≤ 12) : Hues (finerL L C) := fun x hx => by
  obtain ⟨v, hv, rfl⟩ := List.mem_map.1 hx
  have h := rank_le (looksL L C) (lookOf L C v)
  rw [looksL_length] at h
  omega

/-- No node ahead has its colour. -/
def firstB (C : List Int) (v : Nat) : Bool := (List.range v).all fun u => hue C u != hue C v
theorem firstB_iff {C : List Int} {v : Nat} : firstB C v = true ↔ ∀ u, u < v → hue C u ≠ hue C v := by
  unfold firstB
  rw [List.all_eq_true]
  simp
/-- How many different colours n nodes have. -/
def kinds (n : Nat) (C : List Int) : Nat := (List.range n).countP (firstB C)
theorem kinds_le (n : Nat) (C : List Int) : kinds n C ≤ n := by
  have h := List.countP_le_length (p := firstB C) (l := List.range n)
  rw [List.length_range] at h
  exact h
/-- Two nodes of one colour get different ones. -/
def MoreC (n : Nat) (C F : List Int) : Prop := ∃ a b, a < b ∧ b < n ∧ hue C a = hue C b ∧ hue F a ≠ hue F b
theorem first_of (F : List Int) : ∀ b : Nat, ∃ v, v ≤ b ∧ hue F v = hue F b ∧ firstB F v = true := fun b => by
  induction b using Nat.strongRecOn with
  | ind b ih =>
    by_cases h : firstB F b = true
    · exact ⟨b, Nat.le_refl _, rfl, h⟩
    · have h1 : ∃ u, u < b ∧ hue F u = hue F b := by
        refine Classical.byContradiction fun hno => h (firstB_iff.2 fun u hu e => hno ⟨u, hu, e⟩)
      obtain ⟨u, hu, e⟩ := h1
      obtain ⟨v, hv, e2, hf⟩ := ih u hu
      exact ⟨v, by omega, e2.trans e, hf⟩
theorem countP_lt {α : Type} {p q : α → Bool} : ∀ {l : List α}, (∀ x ∈ l, p x = true → q x = true) → (∃ x ∈ l, q x = true ∧ p x = false) → l.countP p < l.countP q
  | [], _, h => by obtain ⟨x, hx, _⟩ := h; cases hx
  | y :: l, hm, h => by
    have le : l.countP p ≤ l.countP q := List.countP_mono_left fun x hx => hm x (List.mem_cons_of_mem _ hx)
    rw [List.countP_cons, List.countP_cons]
    by_cases hy : q y = true ∧ p y = false
    · rw [hy.1, hy.2]
      simp
      omega
    · have h' : ∃ x ∈ l, q x = true ∧ p x = false := by
        obtain ⟨x, hx, hq⟩ := h
        rcases List.mem_cons.1 hx with e | e
        · subst e; exact absurd hq hy
        · exact ⟨x, e, hq⟩
      have h1 := countP_lt (fun x hx => hm x (List.mem_cons_of_mem _ hx)) h'
      have h2 := hm y (List.mem_cons_self ..)
      cases hpy : p y
      · simp only [Bool.false_eq_true, if_false]
        split <;> omega
      · rw [h2 hpy]; omega
/-- More colours come just where two nodes of one colour get different ones. -/
theorem kinds_more {n : Nat} {C F : List Int} (hF : ∀ a b, a < n → b < n → hue F a = hue F b → hue C a = hue C b) : MoreC n C F → kinds n C < kinds n F := fun h => by
  obtain ⟨a, b, hab, hb, hc, hf⟩ := h
  obtain ⟨v, hv, ev, fv⟩ := first_of F b
  obtain ⟨u, hu, eu, fu⟩ := first_of F a
  have hcv : hue C v = hue C b := hF v b (by omega) hb ev
  have hcu : hue C u = hue C a := hF u a (by omega) (by omega) eu
  have hne : u ≠ v := fun e => by subst e; exact hf (eu.symm.trans ev)
  have hcuv : hue C u = hue C v := by rw [hcu, hcv, hc]
  refine countP_lt (fun x hx hp => firstB_iff.2 fun y hy e => ?_) ?_
  · exact firstB_iff.1 hp y hy (hF y x (by have := List.mem_range.1 hx; omega) (List.mem_range.1 hx) e)
  · rcases Nat.lt_or_gt_of_ne hne with h1 | h1
    · refine ⟨v, List.mem_range.2 (by omega), fv, ?_⟩
      cases e : firstB C v with
      | false => rfl
      | true => exact absurd hcuv (firstB_iff.1 e u h1)
    · refine ⟨u, List.mem_range.2 (by omega), fu, ?_⟩
      cases e : firstB C u with
      | false => rfl
      | true => exact absurd hcuv.symm (firstB_iff.1 e v h1)
theorem kinds_same {n : Nat} {C F : List Int} (hF : ∀ a b, a < n → b < n → hue F a = hue F b → hue C a = hue C b) (h : ¬ MoreC n C F) : kinds n C = kinds n F := by
  unfold kinds
  refine List.countP_congr fun v hv => ?_
  have hvn := List.mem_range.1 hv
  rw [firstB_iff, firstB_iff]
  constructor
  · intro hp u hu e; exact hp u hu (hF u v (by omega) hvn e)
  · intro hp u hu e
    refine hp u hu (Classical.byContradiction fun hne => h ⟨u, v, hu, hvn, e, hne⟩)
theorem kinds_eq_iff {n : Nat} {C F : List Int} (hF : ∀ a b, a < n → b < n → hue F a = hue F b → hue C a = hue C b) : kinds n F = kinds n C ↔ ¬ MoreC n C F :=
  ⟨fun h hm => by have := kinds_more hF hm; omega, fun h => (kinds_same hF h).symm⟩

/-- The end of colours: finer and finer until no more come; k times at most. -/
def endF (L : List Int) : Nat → List Int → List Int
  | 0, C => finerL L C
  | k + 1, C => if kinds L.length (finerL L C) = kinds L.length C then finerL L C else endF L k (finerL L C)
/-- .. which is often enough. -/
def endL (L C : List Int) : List Int := endF L (L.length - kinds L.length C) C
theorem finer_refines (L C : List Int) : ∀ a b, a < L.length → b < L.length → hue (finerL L C) a = hue (finerL L C) b → hue C a = hue C b := fun a b ha hb h => finer_parts ha hb h
theorem finer_kinds (L C : List Int) : kinds L.length C ≤ kinds L.length (finerL L C) := by
  by_cases h : MoreC L.length C (finerL L C)
  · exact Nat.le_of_lt (kinds_more (finer_refines L C) h)
  · exact Nat.le_of_eq (kinds_same (finer_refines L C) h)
theorem endF_enough (L : List Int) : ∀ (k m : Nat) (C : List Int), L.length ≤ kinds L.length C + k → k ≤ m → endF L m C = endF L k C
  | 0, 0, C, _, _ => rfl
  | 0, m + 1, C, h, _ => by
    have h1 := finer_kinds L C
    have h2 := kinds_le L.length (finerL L C)
    unfold endF
    rw [if_pos (by omega)]
  | k + 1, 0, C, _, h => by omega
  | k + 1, m + 1, C, h, hkm => by
    unfold endF
    by_cases e : kinds L.length (finerL L C) = kinds L.length C
    · rw [if_pos e, if_pos e]
    · rw [if_neg e, if_neg e]
      have h1 := finer_kinds L C
      exact endF_enough L k m (finerL L C) (by omega) (by omega)
theorem endL_stop {L C : List Int} (h : kinds L.length (finerL L C) = kinds L.length C) : endL L C = finerL L C := by
  unfold endL
  cases L.length - kinds L.length C with
  | zero => rfl
  | succ k => unfold endF; rw [if_pos h]
theorem endL_go {L C : List Int} (h : kinds L.length (finerL L C) ≠ kinds L.length C) : endL L C = endL L (finerL L C) := by
  have h1 := finer_kinds L C
  have h2 := kinds_le L.length (finerL L C)
  unfold endL
  obtain ⟨k, hk⟩ : ∃ k, L.length - kinds L.length C = k + 1 := ⟨L.length - kinds L.length C - 1, by omega⟩
  rw [hk]
  conv => lhs; unfold endF
  rw [if_neg h]
  exact endF_enough L _ _ (finerL L C) (by omega) (by omega)
theorem endF_length (L : List Int) : ∀ (k : Nat) (C : List Int), (endF L k C).length = L.length
  | 0, C => finerL_length L C
  | k + 1, C => by
    unfold endF
    split
    · exact finerL_length L C
    · exact endF_length L k _
theorem endL_length (L C : List Int) : (endL L C).length = L.length := endF_length L _ C
end Go.Proofs.YtnnobbbljpaieaaDoor
