/- Looks: a node's colour and those of its neighbours in order. Plain mathematics, no condition. -/
import Derived.Test.YtnnobbbljpaieaaDoorNodesT
import Derived.Test.YtnnobbbljpaieaaDoorBaseA
import Derived.Test.YtnnobbbljpaieaaDoorLess
namespace Go.Proofs.YtnnobbbljpaieaaDoor
open Go Go.RowKit
set_option linter.unusedVariables false
set_option maxRecDepth 100000

/-- The neighbours of each of up to twelve nodes; none is its own. -/
def Net (L : List Int) : Prop := 1 ≤ L.length ∧ L.length ≤ 12 ∧ ∀ v, v < L.length → ∃ X : Nat, L[v]?.getD 0 = (X : Int) ∧ X < 2 ^ L.length ∧ X / 2 ^ v % 2 = 0
/-- Colours as they may be passed in. -/
def Hues (C : List Int) : Prop := ∀ x ∈ C, 0 ≤ x ∧ x ≤ 1000
def hue (C : List Int) (v : Nat) : Int := C[v]?.getD 0
def nset (L : List Int) (v : Nat) : Nat := (L[v]?.getD 0).toNat
def nbHues (L C : List Int) (v : Nat) : List Int := (nodesT (nset L v)).map (hue C)
/-- The look of a node. -/
def lookOf (L C : List Int) (v : Nat) : List Int := hue C v :: sortL (nbHues L C v)
theorem lookOf_length (L C : List Int) (v : Nat) : (lookOf L C v).length = (nodesT (nset L v)).length + 1 := by simp [lookOf, sortL_length, nbHues]
theorem Net.ent {L : List Int} (h : Net L) {v : Nat} (hv : v < L.length) : L[v]?.getD 0 = ((nset L v : Nat) : Int) ∧ nset L v < 2 ^ L.length ∧ nset L v / 2 ^ v % 2 = 0 := by
  obtain ⟨X, h1, h2, h3⟩ := h.2.2 v hv
  have e : nset L v = X := by unfold nset; rw [h1]; simp
  rw [e]
  exact ⟨h1, h2, h3⟩
theorem hue_range {C : List Int} (h : Hues C) (v : Nat) : 0 ≤ hue C v ∧ hue C v ≤ 1000 := by
  unfold hue
  by_cases hv : v < C.length
  · rw [List.getElem?_eq_getElem hv]; exact h _ (List.getElem_mem _)
  · rw [List.getElem?_eq_none (by omega)]; simp

theorem nodesT_range {n X : Nat} (hn : n ≤ 12) (hX : X < 2 ^ n) : nodesT X = (List.range n).filter fun i => X / 2 ^ i % 2 == 1 := by
  unfold nodesT
  have e : List.range 12 = List.range n ++ (List.range (12 - n)).map (n + ·) := by rw [← List.range_add]; congr 1; omega
  rw [e, List.filter_append]
  have e2 : ((List.range (12 - n)).map (n + ·)).filter (fun i => X / 2 ^ i % 2 == 1) = [] := by
    refine List.filter_eq_nil_iff.2 fun i hi => ?_
    obtain ⟨j, _, rfl⟩ := List.mem_map.1 hi
    have h1 : X < 2 ^ (n + j) := Nat.lt_of_lt_of_le hX (Nat.pow_le_pow_right (by omega) (Nat.le_add_right _ _))
    rw [Nat.div_eq_of_lt h1]
    simp
  rw [e2, List.append_nil]
theorem nodesT_lt {n X : Nat} (hn : n ≤ 12) (hX : X < 2 ^ n) : ∀ i ∈ nodesT X, i < n := fun i hi => by
  rw [nodesT_range hn hX] at hi
  exact List.mem_range.1 (List.mem_filter.1 hi).1

/-- The list with the places told marked. -/
def markT (C : List Int) (pre : List Nat) : List Int := pre.foldl (fun xs u => xs.set u 1001) C
theorem markT_nil (C : List Int) : markT C [] = C := rfl
theorem markT_snoc (C : List Int) (pre : List Nat) (u : Nat) : markT C (pre ++ [u]) = (markT C pre).set u 1001 := by simp [markT]
theorem markT_length (C : List Int) : ∀ pre : List Nat, (markT C pre).length = C.length := fun pre => by
  unfold markT
  induction pre generalizing C with
  | nil => rfl
  | cons u pre ih => rw [List.foldl_cons, ih, List.length_set]
theorem markT_get (C : List Int) (pre : List Nat) (i : Nat) (hi : i < C.length) : (markT C pre)[i]?.getD 0 = if i ∈ pre then 1001 else hue C i := by
  unfold markT
  induction pre generalizing C with
  | nil => simp [hue]
  | cons u pre ih =>
    rw [List.foldl_cons, ih _ (by rw [List.length_set]; exact hi)]
    by_cases h1 : i ∈ pre
    · rw [if_pos h1, if_pos (List.mem_cons_of_mem _ h1)]
    · rw [if_neg h1]
      by_cases h2 : i = u
      · subst h2
        rw [if_pos (List.mem_cons_self ..)]
        simp [hue, hi]
      · rw [if_neg (by simp [h1, h2])]
        unfold hue
        rw [List.getElem?_set_ne (Ne.symm h2)]

theorem less_bit (Q X i n : Nat) (hQ : Q + 1 = 2 ^ n) (hn : n ≤ 12) (hX : X < 2 ^ n) : less Q X / 2 ^ i % 2 = 1 ↔ i < n ∧ X / 2 ^ i % 2 = 0 := by
  have h12 : 2 ^ n ≤ 4096 := Nat.pow_le_pow_right (by omega) hn
  have e1 : Q = 2 ^ n - 1 := by omega
  have e2 : ∀ m : Nat, m / 2 ^ i % 2 = 1 ↔ m.testBit i = true := fun m => by
    rw [Nat.testBit_eq_decide_div_mod_eq, decide_eq_true_eq]
  have e3 : ∀ m : Nat, m / 2 ^ i % 2 = 0 ↔ m.testBit i = false := fun m => by
    rw [Nat.testBit_eq_decide_div_mod_eq, decide_eq_false_iff_not]; omega
  have e4 : 18446744073709551615 - X = 2 ^ 64 - (X + 1) := by omega
  rw [e2, e3]
  unfold less
  rw [Nat.testBit_and, e1, Nat.testBit_two_pow_sub_one, e4, Nat.testBit_two_pow_sub_succ (by omega)]
  simp only [Bool.and_eq_true, decide_eq_true_eq, Bool.not_eq_true']
  constructor
  · rintro ⟨a, b, c⟩; exact ⟨a, c⟩
  · rintro ⟨a, c⟩; exact ⟨a, by omega, c⟩
theorem less_small (Q X n : Nat) (hQ : Q + 1 = 2 ^ n) : less Q X < 2 ^ n := by
  have := less_le Q X
  omega

/-- What stands when the others are marked, and the node itself: in order. -/
theorem look_sorted {L C : List Int} (hN : Net L) (hl : C.length = L.length) (hC : Hues C) {v Q : Nat} (hv : v < L.length) (hQ : Q + 1 = 2 ^ L.length) :
    ∃ k, sortL ((markT C (nodesT (less Q (nset L v)))).set v (-1)) = -1 :: (sortL (nbHues L C v) ++ List.replicate k 1001) := by
  obtain ⟨hL, hX, hvb⟩ := hN.ent hv
  have h12 := hN.2.1
  obtain ⟨X, eX⟩ : ∃ X, X = nset L v := ⟨_, rfl⟩
  obtain ⟨n, en⟩ : ∃ n, n = L.length := ⟨_, rfl⟩
  have eN : nbHues L C v = ((List.range n).filter fun i => X / 2 ^ i % 2 == 1).map (hue C) := by
    unfold nbHues
    rw [nodesT_range h12 hX, ← eX, ← en]
  rw [← eX] at hX hvb ⊢
  rw [← en] at hv hQ hX h12 hl
  let f : Nat → Int := fun i => if i = v then -1 else if X / 2 ^ i % 2 = 1 then hue C i else 1001
  have hF : (markT C (nodesT (less Q X))).set v (-1) = (List.range n).map f := by
    apply List.ext_getElem?
    intro i
    by_cases hi : i < n
    · have h1 : i < ((markT C (nodesT (less Q X))).set v (-1)).length := by rw [List.length_set, markT_length, hl]; exact hi
      rw [List.getElem?_map, List.getElem?_range hi, Option.map_some]
      by_cases hiv : i = v
      · subst hiv
        rw [List.getElem?_set_self (by rw [markT_length, hl]; exact hi)]
        simp [f]
      · rw [List.getElem?_set_ne (Ne.symm hiv)]
        have h2 := markT_get C (nodesT (less Q X)) i (by rw [hl]; exact hi)
        have h3 : i < (markT C (nodesT (less Q X))).length := by rw [markT_length, hl]; exact hi
        rw [List.getElem?_eq_getElem h3, Option.getD_some] at h2
        rw [List.getElem?_eq_getElem h3, h2]
        have h4 : i ∈ nodesT (less Q X) ↔ ¬ X / 2 ^ i % 2 = 1 := by
          rw [nodesT_range h12 (less_small Q X n hQ), List.mem_filter, List.mem_range, beq_iff_eq, less_bit Q X i n hQ h12 hX]
          constructor
          · rintro ⟨_, _, h⟩; omega
          · intro h; exact ⟨hi, hi, by omega⟩
        show some _ = some (if i = v then (-1 : Int) else if X / 2 ^ i % 2 = 1 then hue C i else 1001)
        rw [if_neg hiv]
        by_cases h5 : X / 2 ^ i % 2 = 1
        · rw [if_pos h5, if_neg (fun h => h4.1 h h5)]
        · rw [if_neg h5, if_pos (h4.2 h5)]
    · rw [List.getElem?_eq_none (by rw [List.length_set, markT_length, hl]; omega), List.getElem?_eq_none (by simp; omega)]
  rw [hF]
  have hnd : (List.range n).Nodup := List.nodup_range
  obtain ⟨R, eR⟩ : ∃ R, R = (List.range n).filter fun i => !(X / 2 ^ i % 2 == 1) := ⟨_, rfl⟩
  have hvR : v ∈ R := by rw [eR, List.mem_filter, List.mem_range]; exact ⟨hv, by simp [hvb]⟩
  have hRn : R.Nodup := by rw [eR]; exact hnd.filter _
  have p1 : (((List.range n).filter fun i => X / 2 ^ i % 2 == 1) ++ R).Perm (List.range n) := by
    rw [eR]
    exact List.filter_append_perm _ _
  have p2 : R.Perm (v :: R.erase v) := List.perm_cons_erase hvR
  have e1 : ((List.range n).filter fun i => X / 2 ^ i % 2 == 1).map f = nbHues L C v := by
    rw [eN]
    refine List.map_congr_left fun i hi => ?_
    have h1 := (List.mem_filter.1 hi).2
    rw [beq_iff_eq] at h1
    have h2 : i ≠ v := fun e => by subst e; omega
    show (if i = v then (-1 : Int) else if X / 2 ^ i % 2 = 1 then hue C i else 1001) = _
    rw [if_neg h2, if_pos h1]
  have e2 : (R.erase v).map f = List.replicate (R.erase v).length 1001 := by
    rw [List.eq_replicate_iff]
    refine ⟨by simp, fun y hy => ?_⟩
    obtain ⟨i, hi, rfl⟩ := List.mem_map.1 hy
    have h1 := (hRn.mem_erase_iff).1 hi
    have h2 := h1.2
    rw [eR] at h2
    have h3 := (List.mem_filter.1 h2).2
    show (if i = v then (-1 : Int) else if X / 2 ^ i % 2 = 1 then hue C i else 1001) = _
    rw [if_neg h1.1, if_neg (by simpa using h3)]
  have e3 : f v = -1 := by simp [f]
  refine ⟨(R.erase v).length, (sortL_of ?_ ?_).symm⟩
  · have q1 : ((List.range n).map f).Perm (nbHues L C v ++ (-1 :: List.replicate (R.erase v).length 1001)) := by
      have := (p1.symm.trans (List.Perm.append_left _ p2)).map f
      rw [List.map_append, List.map_cons, e1, e2, e3] at this
      exact this
    refine List.Perm.trans ?_ q1.symm
    refine List.Perm.trans ?_ List.perm_middle.symm
    exact ((sortL_perm _).append_right _).cons _
  · refine List.pairwise_cons.2 ⟨fun y hy => ?_, List.pairwise_append.2 ⟨sortL_sorted _, ?_, fun a ha b hb => ?_⟩⟩
    · rcases List.mem_append.1 hy with h | h
      · obtain ⟨i, _, rfl⟩ := List.mem_map.1 ((sortL_perm _).mem_iff.1 h)
        have := hue_range hC i
        omega
      · rw [List.eq_of_mem_replicate h]; decide
    · exact List.pairwise_replicate.2 (.inr (by decide))
    · obtain ⟨i, _, rfl⟩ := List.mem_map.1 ((sortL_perm _).mem_iff.1 ha)
      have := hue_range hC i
      rw [List.eq_of_mem_replicate hb]
      omega
theorem look_cut {L C : List Int} {v k : Nat} : ((-1 :: (sortL (nbHues L C v) ++ List.replicate k 1001)).set 0 (hue C v)).take (1 + (nodesT (nset L v)).length) = lookOf L C v := by
  rw [List.set_cons_zero, Nat.add_comm, List.take_succ_cons]
  unfold lookOf
  congr 1
  rw [List.take_append_of_le_length (by rw [sortL_length]; simp [nbHues]), List.take_of_length_le (by rw [sortL_length]; simp [nbHues])]
/-- A node is no neighbour of its own. -/
theorem few_near {L : List Int} (hN : Net L) {v : Nat} (hv : v < L.length) : (nodesT (nset L v)).length + 1 ≤ L.length := by
  obtain ⟨_, hX, hvb⟩ := hN.ent hv
  rw [nodesT_range hN.2.1 hX]
  have h1 : ((List.range L.length).filter fun i => nset L v / 2 ^ i % 2 == 1).length < (List.range L.length).length := by
    rw [← List.countP_eq_length_filter]
    refine Nat.lt_of_le_of_ne List.countP_le_length fun e => ?_
    have h2 := List.countP_eq_length.1 e v (List.mem_range.2 hv)
    rw [beq_iff_eq] at h2
    omega
  rw [List.length_range] at h1
  omega
/-- Looks are lists of small numbers. -/
theorem lookOf_small (L C : List Int) (v : Nat) : (lookOf L C v).length ≤ 13 := by
  rw [lookOf_length]
  have := nodesT_length (nset L v)
  omega
end Go.Proofs.YtnnobbbljpaieaaDoor
