/- Linked graphs stay linked under other names, and have enough edges. Plain mathematics, no condition. -/
import Derived.Test.YtkngijkhhonikaaDoorBaseG
import Derived.Test.YtkngijkhhonikaaDoorClasses
namespace Go.Proofs.YtkngijkhhonikaaDoor
open Go Go.RowKit
set_option linter.unusedVariables false
set_option maxRecDepth 100000

/-- In a linked graph a closed set that is not empty has all nodes. -/
theorem linked_all {L : List Int} (h : IsLinked L) {p : Nat → Prop} (hc : ∀ v u, v < L.length → u < L.length → p v → bt L v u = 1 → p u) {r : Nat} (hr : r < L.length) (hp : p r) : ∀ j, j < L.length → p j := by
  classical
  have hg := h.1
  have sym : ∀ a b, a < L.length → b < L.length → bt L a b = bt L b a := fun a b ha hb => by
    rcases Nat.lt_trichotomy a b with h | h | h
    · exact ((hg.2.2 b hb).2.2 a h).symm
    · subst h; rfl
    · exact (hg.2.2 a ha).2.2 b h
  -- from the node 0, whatever is closed has all
  have base : ∀ q : Nat → Prop, (∀ v u, v < L.length → u < L.length → q v → bt L v u = 1 → q u) → q 0 → ∀ j, j < L.length → q j := fun q hq h0 => by
    have e := h.2
    have key : ∀ k j, j < L.length → (turns L k).testBit j = true → q j := by
      have grows : ∀ s, (∀ j, j < L.length → s.testBit j = true → q j) → ∀ m, m ≤ L.length → ∀ j, j < L.length → (turn L s m).testBit j = true → q j := fun s hs m => by
        induction m with
        | zero => intro _ j hj hb; exact hs j hj hb
        | succ m ih =>
          intro hm j hj hb
          rw [turn_succ] at hb
          unfold grow at hb
          by_cases hv : (turn L s m).testBit m = true
          · rw [if_pos hv, Nat.testBit_or, Bool.or_eq_true] at hb
            rcases hb with hb | hb
            · exact ih (by omega) j hj hb
            · exact hq m j (by omega) hj (ih (by omega) m (by omega) hv) ((bt_bit L m j).2 hb)
          · rw [if_neg hv] at hb
            exact ih (by omega) j hj hb
      intro k
      induction k with
      | zero =>
        intro j hj hb
        have hj0 : j = 0 := by
          refine Classical.byContradiction fun hne => ?_
          have h1 : (1 : Nat).testBit j = true := hb
          rw [show (1 : Nat) = 2 ^ 0 from rfl, Nat.testBit_two_pow] at h1
          simp at h1
          omega
        subst hj0
        exact h0
      | succ k ih => exact grows _ ih L.length (Nat.le_refl _)
    intro j hj
    refine key L.length j hj ?_
    rw [e, Nat.testBit_two_pow_sub_one]
    simp [hj]
  by_cases h0 : p 0
  · exact base p hc h0
  · have hn := base (fun v => ¬ p v) (fun v u hv hu hnv hb hpu => hnv (hc u v hu hv hpu (by rw [sym u v hu hv]; exact hb))) h0
    exact absurd hp (hn r hr)
theorem linked_of {L : List Int} (hg : IsGraph L) (h : ∀ p : Nat → Prop, (∀ v u, v < L.length → u < L.length → p v → bt L v u = 1 → p u) → p 0 → ∀ j, j < L.length → p j) : IsLinked L := by
  refine ⟨hg, full_of (turns_small hg _) ?_⟩
  refine h (fun v => (turns L L.length).testBit v = true) (fun v u hv hu hp hb => turns_shut hg v hv hp u ((bt_bit L v u).1 hb)) (turns_has L L.length 0 (by decide))
theorem linked_named {L : List Int} (h : IsLinked L) {P : List Nat} (hP : Names L.length L.length P) : IsLinked (namedL L P) := by
  have hg := h.1
  have hM := named_graph hg hP
  have hl := namedL_length L P
  refine linked_of hM fun p hc h0 j hj => ?_
  rw [hl] at hc hj
  obtain ⟨r, hr, er⟩ := at_surj hP hg.1
  obtain ⟨i, hi, ei⟩ := at_surj hP hj
  have := linked_all h (p := fun v => p (at_ P v)) (fun v u hv hu hv1 hb => hc _ _ (at_name hP hv) (at_name hP hu) hv1 (by rw [named_at hP hv hu]; exact hb)) hr (by rw [er]; exact h0) i hi
  rw [ei] at this
  exact this
/-- Enough edges. -/
def Enough (L : List Int) : Prop := IsLinked L → L.length - 1 ≤ edgesN L
theorem enough_tame : Tame Enough := fun L P hg hP h hl => by
  have h2 := h (linked_named hl hP)
  rw [namedL_length, edges_named hg hP] at h2
  exact h2
def okL (n c : Nat) : Bool := decide (n - 1 ≤ pcf 15 c) || !(turns (codeG n c) n == 2 ^ n - 1)
theorem okL_enough {n c : Nat} (hn : n ≤ 6) (hc : c < 2 ^ (rows n).length) (h : okL n c = true) : Enough (codeG n c) := fun hl => by
  have e := codeG_length n c
  have h2 := hl.2
  rw [e] at h2 ⊢
  unfold okL at h
  rw [h2] at h
  unfold edgesN
  rw [codeG_code hn hc]
  simpa using h
theorem okL1 : (List.range (2 ^ (rows 1).length)).all (okL 1) = true := by decide +kernel
theorem okL2 : (List.range (2 ^ (rows 2).length)).all (okL 2) = true := by decide +kernel
theorem okL3 : (List.range (2 ^ (rows 3).length)).all (okL 3) = true := by decide +kernel
theorem okL4 : (List.range (2 ^ (rows 4).length)).all (okL 4) = true := by decide +kernel
theorem okL5 : (firsts5.all fun e => okL 5 e.1) = true := by decide +kernel
theorem okL6 : (firsts5.all fun e => (List.range 32).all fun s => okL 6 (e.1 + 1024 * s)) = true := by decide +kernel
theorem enough_all {L : List Int} (hg : IsGraph L) : Enough L := by
  refine by_classes enough_tame (fun n h1 h4 c hc => ?_) (fun e he => okL_enough (by decide) (by have := firsts5_lt e he; exact this) (List.all_eq_true.1 okL5 e he)) (fun e he s hs => okL_enough (by decide) (by have := firsts5_lt e he; show _ < 32768; omega) (List.all_eq_true.1 (List.all_eq_true.1 okL6 e he) s (List.mem_range.2 hs))) hg
  refine okL_enough (by omega) hc ?_
  obtain rfl | rfl | rfl | rfl : n = 1 ∨ n = 2 ∨ n = 3 ∨ n = 4 := by omega
  · exact List.all_eq_true.1 okL1 c (List.mem_range.2 hc)
  · exact List.all_eq_true.1 okL2 c (List.mem_range.2 hc)
  · exact List.all_eq_true.1 okL3 c (List.mem_range.2 hc)
  · exact List.all_eq_true.1 okL4 c (List.mem_range.2 hc)
/-- Names the other way round, the first k. -/
def rv (n k : Nat) : List Nat := (List.range k).map fun i => n - 1 - i
theorem rv_succ (n k : Nat) : rv n (k + 1) = rv n k ++ [n - 1 - k] := by simp [rv, List.range_succ]
theorem rv_length (n k : Nat) : (rv n k).length = k := by simp [rv]
theorem rv_names : ∀ n : Fin 7, Names n.val n.val (rv n.val n.val) := by unfold Names; decide +kernel
theorem rv_isNames : ∀ n : Fin 7, IsNames (ints (rv n.val n.val)) n.val := by unfold IsNames InN natOf; decide +kernel
end Go.Proofs.YtkngijkhhonikaaDoor
