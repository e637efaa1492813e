/- Pictures of a graph in a graph: lists of nodes, one for each node, in which neighbours have neighbours. Plain mathematics. -/
import Derived.Test.YtnnobbbljpaieaaDoorBaseA
namespace Go.Proofs.YtnnobbbljpaieaaDoor
open Go Go.RowKit
set_option linter.unusedVariables false

theorem bt_symP {L : List Int} (hg : IsGraph L) {a b : Nat} (ha : a < L.length) (hb : b < L.length) : bt L a b = bt L b a := by
  rcases Nat.lt_trichotomy a b with h | h | h
  · exact ((hg.2.2 b hb).2.2 a h).symm
  · subst h; rfl
  · exact (hg.2.2 a ha).2.2 b h
theorem bt_testP (L : List Int) (i j : Nat) : (ent L i).testBit j = (bt L i j == 1) := by
  unfold bt
  rw [Nat.testBit_eq_decide_div_mod_eq]
  rfl
theorem filter_range_le (p : Nat → Bool) (n m : Nat) (h : n ≤ m) (hp : ∀ i, n ≤ i → i < m → p i = false) : (List.range m).filter p = (List.range n).filter p := by
  obtain ⟨d, rfl⟩ : ∃ d, m = n + d := ⟨m - n, by omega⟩
  clear h
  induction d with
  | zero => rfl
  | succ d ih =>
    rw [← Nat.add_assoc, List.range_succ, List.filter_append, ih (fun i h1 h2 => hp i h1 (by omega))]
    simp [hp (n + d) (by omega) (by omega)]
theorem sum_le {α : Type} (f : α → Nat) (M : Nat) (h : ∀ x, f x ≤ M) : ∀ l : List α, (l.map f).sum ≤ l.length * M
  | [] => by simp
  | x :: l => by
    have h1 := sum_le f M h l
    have h2 := h x
    rw [List.map_cons, List.sum_cons, List.length_cons, Nat.add_mul, Nat.one_mul]
    omega

/-- Whether a node fits behind a list, as far as the first j nodes of it tell. -/
def fitB (H G : List Int) (P : List Nat) (x j : Nat) : Bool := (List.range j).all fun w => bt H P.length w == 0 || bt G x (P[w]?.getD 0) == 1
theorem fitB_zero (H G : List Int) (P : List Nat) (x : Nat) : fitB H G P x 0 = true := rfl
theorem fitB_succ (H G : List Int) (P : List Nat) (x j : Nat) : fitB H G P x (j + 1) = (fitB H G P x j && (bt H P.length j == 0 || bt G x (P[j]?.getD 0) == 1)) := by
  unfold fitB
  rw [List.range_succ, List.all_append]
  simp
/-- How many pictures begin with a list that lacks r nodes. -/
def pics (H G : List Int) : Nat → List Nat → Nat
  | 0, _ => 1
  | r + 1, P => (((List.range G.length).filter fun x => fitB H G P x P.length).map fun x => pics H G r (P ++ [x])).sum
theorem pics_le (H : List Int) {G : List Int} (h6 : G.length ≤ 6) : ∀ (r : Nat) (P : List Nat), pics H G r P ≤ 6 ^ r
  | 0, _ => Nat.le_refl _
  | r + 1, P => by
    show (((List.range G.length).filter fun x => fitB H G P x P.length).map fun x => pics H G r (P ++ [x])).sum ≤ _
    refine Nat.le_trans (sum_le _ (6 ^ r) (fun x => pics_le H h6 r (P ++ [x])) _) ?_
    rw [Nat.pow_succ, Nat.mul_comm (6 ^ r)]
    exact Nat.mul_le_mul_right _ (Nat.le_trans (List.length_filter_le _ _) (by simp; omega))
/-- Those that go on with one of the first i nodes. -/
def picTo (H G : List Int) (r : Nat) (P : List Nat) (i : Nat) : Nat := (((List.range i).filter fun x => fitB H G P x P.length).map fun x => pics H G r (P ++ [x])).sum
theorem picTo_zero (H G : List Int) (r : Nat) (P : List Nat) : picTo H G r P 0 = 0 := rfl
theorem picTo_succ (H G : List Int) (r : Nat) (P : List Nat) (i : Nat) : picTo H G r P (i + 1) = picTo H G r P i + (if fitB H G P i P.length = true then pics H G r (P ++ [i]) else 0) := by
  unfold picTo
  rw [List.range_succ, List.filter_append, List.map_append, List.sum_append]
  congr 1
  by_cases h : fitB H G P i P.length = true
  · simp [h]
  · simp [h]
theorem picTo_all (H G : List Int) (r : Nat) (P : List Nat) : picTo H G r P G.length = pics H G (r + 1) P := rfl
theorem picTo_le (H : List Int) {G : List Int} (h6 : G.length ≤ 6) (r : Nat) (P : List Nat) (i : Nat) : picTo H G r P i ≤ i * 6 ^ r := by
  refine Nat.le_trans (sum_le _ (6 ^ r) (fun x => pics_le H h6 r (P ++ [x])) _) (Nat.mul_le_mul_right _ (Nat.le_trans (List.length_filter_le _ _) (by simp)))

/-- The set of the nodes that fit, as far as the first j nodes tell. -/
def fitS (H G : List Int) (P : List Nat) : Nat → Nat
  | 0 => 2 ^ G.length - 1
  | j + 1 => if bt H j P.length = 1 then fitS H G P j &&& ent G (P[j]?.getD 0) else fitS H G P j
theorem fitS_succ (H G : List Int) (P : List Nat) (j : Nat) : fitS H G P (j + 1) = if bt H j P.length = 1 then fitS H G P j &&& ent G (P[j]?.getD 0) else fitS H G P j := rfl
theorem fitS_lt (H G : List Int) (P : List Nat) : ∀ j, fitS H G P j < 2 ^ G.length
  | 0 => by have := Nat.two_pow_pos G.length; unfold fitS; omega
  | j + 1 => by
    have h := fitS_lt H G P j
    unfold fitS
    split
    · exact Nat.lt_of_le_of_lt Nat.and_le_left h
    · exact h
theorem fitS_bit {H G : List Int} (hH : IsGraph H) (hG : IsGraph G) {P : List Nat} (hP : P.length < H.length) (hp : ∀ p ∈ P, p < G.length) {x : Nat} (hx : x < G.length) : ∀ j, j ≤ P.length → (fitS H G P j).testBit x = fitB H G P x j
  | 0, _ => by
    rw [fitB_zero]
    unfold fitS
    rw [Nat.testBit_two_pow_sub_one]
    simp [hx]
  | j + 1, hj => by
    have ih := fitS_bit hH hG hP hp hx j (by omega)
    have hpj : P[j]?.getD 0 < G.length := by
      rw [List.getElem?_eq_getElem (by omega)]
      exact hp _ (List.getElem_mem _)
    rw [fitB_succ, ← ih, bt_symP hH hP (by omega : j < H.length), fitS_succ]
    by_cases h : bt H j P.length = 1
    · rw [if_pos h, Nat.testBit_and, bt_testP, bt_symP hG hpj hx, h]
      simp
    · have h0 : bt H j P.length = 0 := by unfold bt at h ⊢; omega
      rw [if_neg h, h0]
      simp
theorem nodes_fit {H G : List Int} (hH : IsGraph H) (hG : IsGraph G) {P : List Nat} (hP : P.length < H.length) (hp : ∀ p ∈ P, p < G.length) : nodesL (fitS H G P P.length) = (List.range G.length).filter fun x => fitB H G P x P.length := by
  unfold nodesL
  have h6 := hG.2.1
  have hlt := fitS_lt H G P P.length
  rw [filter_range_le (fun i => fitS H G P P.length / 2 ^ i % 2 == 1) G.length 6 h6 (fun i h1 h2 => by
    have h3 : fitS H G P P.length / 2 ^ i = 0 := Nat.div_eq_of_lt (Nat.lt_of_lt_of_le hlt (Nat.pow_le_pow_right (by omega) h1))
    show (fitS H G P P.length / 2 ^ i % 2 == 1) = false
    rw [h3]
    rfl)]
  refine List.filter_congr fun x hx => ?_
  have hx := List.mem_range.1 hx
  rw [← fitS_bit hH hG hP hp hx P.length (Nat.le_refl _), Nat.testBit_eq_decide_div_mod_eq]
  rfl
/-- The sum over the nodes that fit. -/
theorem sum_fit {H G : List Int} (hH : IsGraph H) (hG : IsGraph G) {P : List Nat} (hP : P.length < H.length) (hp : ∀ p ∈ P, p < G.length) (r : Nat) : ((nodesL (fitS H G P P.length)).map fun x => pics H G r (P ++ [x])).sum = pics H G (r + 1) P := by
  rw [nodes_fit hH hG hP hp]
  rfl
end Go.Proofs.YtnnobbbljpaieaaDoor
