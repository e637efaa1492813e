/- Texts in one: Less, TryMath, NamedMath, NamesMath, NamesDef, Grid, PartMath, LikeDef, PermsMath, SpecNamed, AlikeMath, Codes, Group, UpN, SortL, PartGraph, CodeBits. -/
import Derived.Test.YtamabhdbcmjbjaaDoorBaseA
import Derived.RangeFuncBox
import Derived.StillTailTactics

/- A set less another one. -/


namespace Go.Proofs.YtamabhdbcmjbjaaDoor
open Go Go.RowKit

/-- The nodes of one set that are none of the other one's. -/
def less (a b : Nat) : Nat := a &&& (18446744073709551615 - b)
theorem less_le (a b : Nat) : less a b ≤ a := Nat.and_le_left
theorem less_op (a b : Nat) (ha : a < 1048576) (hb : b < 1048576) : bits .andNot .i64 (a : Int) (b : Int) = ((less a b : Nat) : Int) := i64_andNot_nat a b (by omega) (by omega)
end Go.Proofs.YtamabhdbcmjbjaaDoor

/- Names tried one behind the other, leaving off where a beginning does not fit; what a try keeps of the world. -/





namespace Go.Proofs.YtamabhdbcmjbjaaDoor
open Go Go.RowKit
set_option linter.unusedVariables false

/-- All names that begin with P, over the nodes of s, that come to the list. -/
def dfs (fit : List (List Nat) → List Nat → Bool) : Nat → List (List Nat) → List Nat → Nat → List (List Nat)
  | 0, acc, P, _ => acc ++ [P]
  | k + 1, acc, P, s => (nodesL s).foldl (fun acc v => if fit acc (P ++ [v]) = true then dfs fit k acc (P ++ [v]) (less s (2 ^ v)) else acc) acc
def stepF (fit : List (List Nat) → List Nat → Bool) (k : Nat) (P : List Nat) (s : Nat) (acc : List (List Nat)) (v : Nat) : List (List Nat) :=
  if fit acc (P ++ [v]) = true then dfs fit k acc (P ++ [v]) (less s (2 ^ v)) else acc
def runF (fit : List (List Nat) → List Nat → Bool) (k : Nat) (P : List Nat) (s : Nat) (acc : List (List Nat)) (vs : List Nat) : List (List Nat) := vs.foldl (stepF fit k P s) acc
theorem dfs_zero (fit : List (List Nat) → List Nat → Bool) (acc : List (List Nat)) (P : List Nat) (s : Nat) : dfs fit 0 acc P s = acc ++ [P] := rfl
theorem dfs_succ (fit : List (List Nat) → List Nat → Bool) (k : Nat) (acc : List (List Nat)) (P : List Nat) (s : Nat) : dfs fit (k + 1) acc P s = runF fit k P s acc (nodesL s) := rfl
theorem runF_nil (fit : List (List Nat) → List Nat → Bool) (k : Nat) (P : List Nat) (s : Nat) (acc : List (List Nat)) : runF fit k P s acc [] = acc := rfl
theorem runF_snoc (fit : List (List Nat) → List Nat → Bool) (k : Nat) (P : List Nat) (s : Nat) (acc : List (List Nat)) (vs : List Nat) (v : Nat) : runF fit k P s acc (vs ++ [v]) = stepF fit k P s (runF fit k P s acc vs) v := by simp [runF]
theorem run_pre {f : List (List Nat) → Nat → List (List Nat)} (hf : ∀ acc v, acc <+: f acc v) (vs : List Nat) (acc : List (List Nat)) : acc <+: vs.foldl f acc := by
  induction vs generalizing acc with
  | nil => exact List.prefix_refl _
  | cons v vs ih => exact (hf acc v).trans (ih _)
theorem dfs_pre (fit : List (List Nat) → List Nat → Bool) (k : Nat) : ∀ (acc : List (List Nat)) (P : List Nat) (s : Nat), acc <+: dfs fit k acc P s := by
  induction k with
  | zero => intro acc P s; exact List.prefix_append _ _
  | succ k ih =>
    intro acc P s
    rw [dfs_succ]
    refine run_pre (fun acc v => ?_) _ _
    unfold stepF
    split
    · exact ih _ _ _
    · exact List.prefix_refl _
theorem stepF_pre (fit : List (List Nat) → List Nat → Bool) (k : Nat) (P : List Nat) (s : Nat) (acc : List (List Nat)) (v : Nat) : acc <+: stepF fit k P s acc v := by
  unfold stepF
  split
  · exact dfs_pre _ _ _ _ _
  · exact List.prefix_refl _
theorem runF_mono (fit : List (List Nat) → List Nat → Bool) (k : Nat) (P : List Nat) (s : Nat) (acc : List (List Nat)) {vs us : List Nat} (h : vs <+: us) : runF fit k P s acc vs <+: runF fit k P s acc us := by
  obtain ⟨t, rfl⟩ := h
  unfold runF
  rw [List.foldl_append]
  exact run_pre (fun acc v => stepF_pre _ _ _ _ _ _) _ _

/-! ### sets -/
theorem less_bit : ∀ (s : Fin 64) (v : Fin 6), less s.val (2 ^ v.val) < 64 ∧ (s.val / 2 ^ v.val % 2 = 1 → nodesL (less s.val (2 ^ v.val)) = (nodesL s.val).filter (fun x => x != v.val) ∧ (nodesL (less s.val (2 ^ v.val))).length + 1 = (nodesL s.val).length) := by decide +kernel
theorem nodes_none : ∀ s : Fin 64, (nodesL s.val).length = 0 → s.val = 0 := by decide +kernel
theorem less_lt (s v m : Nat) (hs : s < 2 ^ m) : less s (2 ^ v) < 2 ^ m := Nat.lt_of_le_of_lt (less_le s (2 ^ v)) hs

/-! ### what is kept -/
/-- Every block from B on lies as it lay. -/
def Rest0 (B : Nat) (X Y : World) : Prop := X.heap.size ≤ Y.heap.size ∧ ∀ (k : Nat) (o : Obj), B ≤ k → X.heap[k]? = some o → Y.heap[k]? = some o
/-- The same, but for the list in the making and its box. -/
def RestP (B : Nat) (X Y : World) : Prop := X.heap.size ≤ Y.heap.size ∧ ∀ (k : Nat) (o : Obj), B ≤ k → k ≠ B + 1 → k ≠ B + 2 → X.heap[k]? = some o → Y.heap[k]? = some o
theorem Rest0.p {B : Nat} {X Y : World} (h : Rest0 B X Y) : RestP B X Y := ⟨h.1, fun k o h1 _ _ h4 => h.2 k o h1 h4⟩
theorem RestP.refl (B : Nat) (X : World) : RestP B X X := ⟨Nat.le_refl _, fun _ _ _ _ _ h => h⟩
theorem RestP.trans {B : Nat} {X Y Z : World} (h : RestP B X Y) (k : RestP B Y Z) : RestP B X Z := ⟨Nat.le_trans h.1 k.1, fun i o h1 h2 h3 h4 => k.2 i o h1 h2 h3 (h.2 i o h1 h2 h3 h4)⟩
theorem Rest0.trans {B : Nat} {X Y Z : World} (h : Rest0 B X Y) (k : Rest0 B Y Z) : Rest0 B X Z := ⟨Nat.le_trans h.1 k.1, fun i o h1 h4 => k.2 i o h1 (h.2 i o h1 h4)⟩
theorem restP_of_grown {B : Nat} {X Y : World} {row : Option Nat} (h : X.grownBy Y row) (hr : ∀ r, row = some r → r = B + 1 ∨ r = B + 2 ∨ X.heap.size ≤ r ∨ r < B) : RestP B X Y :=
  ⟨h.size, fun k o h1 h2 h3 h4 => (h.block k (Array.getElem?_eq_some_iff.1 h4).1 (fun e => by
    have h5 := (Array.getElem?_eq_some_iff.1 h4).1
    rcases hr k e.symm with h | h | h | h <;> omega)).trans h4⟩
theorem restP_alloc (B : Nat) (X : World) (o : Obj) : RestP B X (X.alloc o) := ⟨by simp, fun k o' _ _ _ h => (Below.heap_alloc _ _ _ (Array.getElem?_eq_some_iff.1 h).1).trans h⟩
theorem restP_below {B : Nat} {X Y : World} (h : Below X.heap.size X Y) : RestP B X Y := ⟨h.size, fun k o _ _ _ h4 => (h.block k (Array.getElem?_eq_some_iff.1 h4).1).trans h4⟩
/-- Between a world and one that came out of it, but for blocks that came later. -/
theorem restP_later {B m : Nat} {X Y Z : World} (h : RestP B X Y) (hm : X.heap.size ≤ m) (hg : ∀ (k : Nat) (o : Obj), k < m → k ≠ B + 1 → k ≠ B + 2 → Y.heap[k]? = some o → Z.heap[k]? = some o) (hs : Y.heap.size ≤ Z.heap.size) : RestP B X Z :=
  ⟨Nat.le_trans h.1 hs, fun k o h1 h2 h3 h4 => hg k o (Nat.lt_of_lt_of_le (Array.getElem?_eq_some_iff.1 h4).1 hm) h2 h3 (h.2 k o h1 h2 h3 h4)⟩
theorem boxed_restP {B k : Nat} {t : TypeId} {v : Value} {X Y : World} (h : Boxed X k t v) (hr : RestP B X Y) (h1 : B ≤ k) (h2 : k ≠ B + 1) (h3 : k ≠ B + 2) : Boxed Y k t v := hr.2 k _ h1 h2 h3 h
theorem keepsFrom_restP {B b : Nat} {X Y : World} (h : RestP B X Y) (hb : B + 3 ≤ b) : KeepsFrom b X Y := ⟨h.1, fun k o h1 h2 _ => h.2 k o (by omega) (by omega) (by omega) h2⟩

/-- An object that a try never turns: cells that are no truth values. -/
def hardO : Obj → Bool
  | .cells _ t _ => decide (t ≠ 4)
  | _ => false
theorem soft_of_not_cells {o : Obj} (h : o.isCells = false) : hardO o = false := by cases o <;> first | rfl | (simp [Obj.isCells] at h)
theorem hard_boxed {X : World} {k : Nat} {t : TypeId} {v : Value} (h : Boxed X k t v) (ht : t ≠ 4) : ∃ o : Obj, X.heap[k]? = some o ∧ hardO o = true := ⟨_, h, decide_eq_true ht⟩
theorem soft_bool {X : World} {k : Nat} {v : Value} (h : Boxed X k 4 v) : ∃ o : Obj, X.heap[k]? = some o ∧ hardO o = false := ⟨_, h, rfl⟩
/-- What lay ahead of B stays; of the rest, but for the list in the making and its box, all cells that are no truth values. -/
def Soft (B : Nat) (X Y : World) : Prop := X.heap.size ≤ Y.heap.size ∧ ∀ (k : Nat) (o : Obj), X.heap[k]? = some o → (k < B ∨ (k ≠ B + 1 ∧ k ≠ B + 2 ∧ hardO o = true)) → Y.heap[k]? = some o
theorem Soft.trans {B : Nat} {X Y Z : World} (h : Soft B X Y) (k : Soft B Y Z) : Soft B X Z := ⟨Nat.le_trans h.1 k.1, fun i o hi hc => k.2 i o (h.2 i o hi hc) hc⟩
theorem Soft.drew {B : Nat} (X : World) : Soft B X X.drew := ⟨Nat.le_refl _, fun _ _ h _ => h⟩
theorem soft_rest {B : Nat} {X Y : World} (h : RestP B X Y) (hb : Below B X Y) : Soft B X Y := ⟨h.1, fun k o hk hc => by
  by_cases h1 : k < B
  · exact (hb.block k h1).trans hk
  · rcases hc with hc | ⟨h2, h3, _⟩
    · exact absurd hc h1
    · exact h.2 k o (by omega) h2 h3 hk⟩
theorem soft_new {B : Nat} {X Y : World} (h : Below X.heap.size X Y) : Soft B X Y := ⟨h.size, fun k o hk _ => (h.block k (Array.getElem?_eq_some_iff.1 hk).1).trans hk⟩
theorem soft_grown {B : Nat} {X Y : World} {row : Option Nat} (h : X.grownBy Y row) (hr : ∀ r, row = some r → B ≤ r ∧ (r = B + 1 ∨ r = B + 2 ∨ ∃ o : Obj, X.heap[r]? = some o ∧ hardO o = false)) : Soft B X Y := ⟨h.size, fun k o hk hc => by
  refine (h.block k (Array.getElem?_eq_some_iff.1 hk).1 (fun e => ?_)).trans hk
  obtain ⟨h1, h2⟩ := hr k e.symm
  rcases hc with hc | ⟨c1, c2, c3⟩
  · omega
  · rcases h2 with h2 | h2 | ⟨o', ho, hh⟩
    · exact c1 h2
    · exact c2 h2
    · rw [hk] at ho; cases ho; rw [c3] at hh; cases hh⟩
/-- The same as a caller of a loop over names sees it: the loop's own two objects lie between. -/
def SoftN (m : Nat) (X Y : World) : Prop := X.heap.size ≤ Y.heap.size ∧ ∀ (k : Nat) (o : Obj), X.heap[k]? = some o → (k < m ∨ (k ≠ m + 3 ∧ k ≠ m + 4 ∧ hardO o = true)) → Y.heap[k]? = some o
theorem softN_of {m : Nat} {X Y : World} (h : Soft (m + 2) X Y) : SoftN m X Y := ⟨h.1, fun k o hk hc => h.2 k o hk (by
  rcases hc with hc | ⟨h1, h2, h3⟩
  · exact .inl (by omega)
  · exact .inr ⟨by omega, by omega, h3⟩)⟩
theorem softN_new {m : Nat} {X Y : World} (h : Below X.heap.size X Y) : SoftN m X Y := ⟨h.size, fun k o hk _ => (h.block k (Array.getElem?_eq_some_iff.1 hk).1).trans hk⟩
theorem softN_put {m r : Nat} {X Y : World} (h : X.grownBy Y (some r)) (hm : m ≤ r) (hr : ∃ o : Obj, X.heap[r]? = some o ∧ hardO o = false) : SoftN m X Y := ⟨h.size, fun k o hk hc => by
  refine (h.block k (Array.getElem?_eq_some_iff.1 hk).1 (fun e => ?_)).trans hk
  injection e with e
  subst e
  obtain ⟨o', ho, hh⟩ := hr
  rcases hc with hc | ⟨_, _, c3⟩
  · omega
  · rw [hk] at ho; cases ho; rw [c3] at hh; cases hh⟩
theorem SoftN.box {m k : Nat} {t : TypeId} {v : Value} {X Y : World} (h : SoftN m X Y) (hb : Boxed X k t v) (hk : k < m ∨ (k ≠ m + 3 ∧ k ≠ m + 4 ∧ t ≠ 4)) : Boxed Y k t v := h.2 k _ hb (by
  rcases hk with hk | ⟨h1, h2, h3⟩
  · exact .inl hk
  · exact .inr ⟨h1, h2, decide_eq_true h3⟩)
theorem SoftN.row {m B : Nat} {v : Value} {xs : List Int} {X Y : World} (h : SoftN m X Y) (hr : Row X B v xs) (hv : ∀ g, v.ownBlock = some g → g < m ∨ (g ≠ m + 3 ∧ g ≠ m + 4)) : Row Y B v xs := by
  obtain ⟨h0, h1⟩ := hr
  refine ⟨h0, ?_⟩
  rcases h1 with h1 | ⟨g, cap, cur, a1, a2, a3, a4⟩
  · exact .inl h1
  · refine .inr ⟨g, cap, cur, a1, a2, h.2 g _ a3 ?_, a4⟩
    rcases hv g (by rw [a1]; rfl) with h2 | ⟨h2, h3⟩
    · exact .inl h2
    · exact .inr ⟨h2, h3, rfl⟩

/-- The last number of a list in the making goes. -/
theorem cut_row {W : World} {B g n : Nat} {xs : List Int} {y : Int} (h : Row W B (.slice (some ⟨g, 0, none⟩) (xs.length + 1) n) (xs ++ [y])) : Row W B (.slice (some ⟨g, 0, none⟩) xs.length n) xs := by
  obtain ⟨h1, h2⟩ := h
  rcases h2 with ⟨h3, _⟩ | ⟨g', cap, cur, h3, h4, h5, h6, h7, h8, h9⟩
  · cases h3
  · injection h3 with e1 e2 e3
    injection e1 with e1
    injection e1 with e1
    subst e1
    subst e3
    refine ⟨by simp, .inr ⟨g, n, cur, rfl, h4, h5, ?_, h7, h8, ?_⟩⟩
    · simp at h6; omega
    · have h10 := congrArg (List.take xs.length) h9
      rw [List.take_take] at h10
      simp at h10
      simpa using h10
/-- All names that fit, in order. -/
def allNames (fit : List (List Nat) → List Nat → Bool) (n : Nat) : List (List Nat) := dfs fit n [] [] (2 ^ n - 1)
end Go.Proofs.YtamabhdbcmjbjaaDoor

/- A graph with its nodes named: the model's way and the program's make one list. Plain mathematics, no condition. -/

namespace Go.Proofs.YtamabhdbcmjbjaaDoor
open Go Go.RowKit

def orAt (g : List Nat) (a x : Nat) : List Nat := g.set a (g[a]?.getD 0 ||| x)
theorem orAt_length (g : List Nat) (a x : Nat) : (orAt g a x).length = g.length := by simp [orAt]
theorem orAt_bit (g : List Nat) (a x i j : Nat) (ha : a < g.length) : ((orAt g a x)[i]?.getD 0).testBit j = ((g[i]?.getD 0).testBit j || (decide (i = a) && x.testBit j)) := by
  unfold orAt
  by_cases h : i = a
  · subst h
    rw [List.getElem?_set_self ha]
    simp
  · rw [List.getElem?_set_ne (fun e => h e.symm)]
    simp [h]
theorem lnk_or (g : List Nat) (a b bit : Nat) : lnk g a b bit = orAt (orAt g a (bit * 2 ^ b)) b (bit * 2 ^ a) := rfl
theorem bit_test (bit b j : Nat) (h : bit ≤ 1) : (bit * 2 ^ b).testBit j = (decide (bit = 1) && decide (j = b)) := by
  by_cases h1 : bit = 1
  · subst h1
    rw [Nat.one_mul, Nat.testBit_two_pow]
    simp [eq_comm]
  · have h0 : bit = 0 := by omega
    subst h0
    simp

/-- The program's way: a link for each edge. -/
def lrun (n : Nat) (p : Nat → Nat) (es : List (Nat × Nat)) : List Nat := es.foldl (fun g e => lnk g (p e.1) (p e.2) 1) (List.replicate n 0)
theorem lrun_snoc (n : Nat) (p : Nat → Nat) (es : List (Nat × Nat)) (e : Nat × Nat) : lrun n p (es ++ [e]) = lnk (lrun n p es) (p e.1) (p e.2) 1 := by simp [lrun]
theorem lrun_length (n : Nat) (p : Nat → Nat) (es : List (Nat × Nat)) : (lrun n p es).length = n := by
  induction es using snoc_ind with
  | h0 => simp [lrun]
  | h1 l x ih => rw [lrun_snoc, lnk_length, ih]
theorem lrun_bit (n : Nat) (p : Nat → Nat) (hp : ∀ v, v < n → p v < n) (es : List (Nat × Nat)) (he : ∀ e ∈ es, e.1 < n ∧ e.2 < n) (i j : Nat) :
    ((lrun n p es)[i]?.getD 0).testBit j = true ↔ ∃ e ∈ es, (i = p e.1 ∧ j = p e.2) ∨ (i = p e.2 ∧ j = p e.1) := by
  induction es using snoc_ind with
  | h0 =>
    have h : ((lrun n p [])[i]?.getD 0) = 0 := by unfold lrun; by_cases h : i < n <;> simp [h]
    rw [h]; simp
  | h1 l x ih =>
    have hx := he x (by simp)
    have h1 := hp _ hx.1
    have h2 := hp _ hx.2
    rw [lrun_snoc, lnk_or, orAt_bit _ _ _ _ _ (by rw [orAt_length, lrun_length]; exact h2), orAt_bit _ _ _ _ _ (by rw [lrun_length]; exact h1), bit_test _ _ _ (Nat.le_refl 1), bit_test _ _ _ (Nat.le_refl 1)]
    simp only [Bool.or_eq_true, Bool.and_eq_true, decide_eq_true_eq, ih (fun e h => he e (by simp [h])), List.mem_append, List.mem_singleton]
    constructor
    · rintro ((⟨e, h, h'⟩ | ⟨a, _, b⟩) | ⟨a, _, b⟩)
      · exact ⟨e, .inl h, h'⟩
      · exact ⟨x, .inr rfl, .inl ⟨a, b⟩⟩
      · exact ⟨x, .inr rfl, .inr ⟨a, b⟩⟩
    · rintro ⟨e, (h | rfl), h'⟩
      · exact .inl (.inl ⟨e, h, h'⟩)
      · rcases h' with ⟨a, b⟩ | ⟨a, b⟩
        · exact .inl (.inr ⟨a, trivial, b⟩)
        · exact .inr ⟨a, trivial, b⟩

/-- The model's way: each place of each row. -/
def mrun (L : List Int) (n : Nat) (p : Nat → Nat) (vs : List (Nat × Nat)) : List Nat := vs.foldl (fun g e => orAt g (p e.1) (bt L e.1 e.2 * 2 ^ p e.2)) (List.replicate n 0)
theorem mrun_snoc (L : List Int) (n : Nat) (p : Nat → Nat) (es : List (Nat × Nat)) (e : Nat × Nat) : mrun L n p (es ++ [e]) = orAt (mrun L n p es) (p e.1) (bt L e.1 e.2 * 2 ^ p e.2) := by simp [mrun]
theorem mrun_length (L : List Int) (n : Nat) (p : Nat → Nat) (es : List (Nat × Nat)) : (mrun L n p es).length = n := by
  induction es using snoc_ind with
  | h0 => simp [mrun]
  | h1 l x ih => rw [mrun_snoc, orAt_length, ih]
theorem mrun_bit (L : List Int) (n : Nat) (p : Nat → Nat) (hp : ∀ v, v < n → p v < n) (es : List (Nat × Nat)) (he : ∀ e ∈ es, e.1 < n) (i j : Nat) :
    ((mrun L n p es)[i]?.getD 0).testBit j = true ↔ ∃ e ∈ es, bt L e.1 e.2 = 1 ∧ i = p e.1 ∧ j = p e.2 := by
  induction es using snoc_ind with
  | h0 =>
    have h : ((mrun L n p [])[i]?.getD 0) = 0 := by unfold mrun; by_cases h : i < n <;> simp [h]
    rw [h]; simp
  | h1 l x ih =>
    have h1 := hp _ (he x (by simp))
    rw [mrun_snoc, orAt_bit _ _ _ _ _ (by rw [mrun_length]; exact h1), bit_test _ _ _ (bt_le _ _ _)]
    simp only [Bool.or_eq_true, Bool.and_eq_true, decide_eq_true_eq, ih (fun e h => he e (by simp [h])), List.mem_append, List.mem_singleton]
    constructor
    · rintro (⟨e, h, h'⟩ | ⟨a, b, c⟩)
      · exact ⟨e, .inl h, h'⟩
      · exact ⟨x, .inr rfl, b, a, c⟩
    · rintro ⟨e, (h | rfl), h'⟩
      · exact .inl ⟨e, h, h'⟩
      · exact .inr ⟨h'.2.1, h'.1, h'.2.2⟩

theorem list_bits {a b : List Nat} (hl : a.length = b.length) (h : ∀ i j : Nat, (a[i]?.getD 0).testBit j = true ↔ (b[i]?.getD 0).testBit j = true) : a = b := by
  refine List.ext_getElem hl fun i h1 h2 => ?_
  have h3 : (a[i]?.getD 0) = (b[i]?.getD 0) := Nat.eq_of_testBit_eq fun j => by
    have h4 := h i j
    cases e1 : (a[i]?.getD 0).testBit j <;> cases e2 : (b[i]?.getD 0).testBit j <;> simp_all
  simpa [h1, h2] using h3

theorem rows_all (n a b : Nat) : (a, b) ∈ rows n ↔ a < b ∧ b < n := by
  constructor
  · exact fun h => rows_mem n (a, b) h
  · rintro ⟨h1, h2⟩
    unfold rows
    rw [List.mem_flatMap]
    exact ⟨b, by simpa using h2, by simpa using h1⟩
/-- **Both make one list**, where the graph is one, and each place has been met. -/
theorem named_eq (L : List Int) (hg : IsGraph L) (p : Nat → Nat) (hp : ∀ v, v < L.length → p v < L.length) (vs : List (Nat × Nat)) (hv : ∀ a b, (a, b) ∈ vs ↔ a < L.length ∧ b < L.length) :
    mrun L L.length p vs = lrun L.length p (edgesIn L (rows L.length)) := by
  have sym : ∀ a b, a < L.length → b < L.length → bt L a b = bt L b a := fun a b ha hb => by
    rcases Nat.lt_trichotomy a b with h | h | h
    · exact ((hg.2.2 b hb).2.2 a h).symm
    · rw [h]
    · exact (hg.2.2 a ha).2.2 b h
  refine list_bits (by rw [mrun_length, lrun_length]) fun i j => ?_
  rw [mrun_bit L _ p hp vs (fun e he => ((hv e.1 e.2).1 he).1), lrun_bit _ p hp]
  · constructor
    · rintro ⟨⟨a, b⟩, he, hb, hi, hj⟩
      obtain ⟨ha, hb'⟩ := (hv a b).1 he
      dsimp only at hb hi hj
      rcases Nat.lt_trichotomy a b with h | h | h
      · exact ⟨(a, b), by unfold edgesIn; rw [List.mem_filter]; exact ⟨(rows_all _ _ _).2 ⟨h, hb'⟩, by simpa using hb⟩, .inl ⟨hi, hj⟩⟩
      · subst h
        have := (hg.2.2 a ha).2.1
        omega
      · exact ⟨(b, a), by unfold edgesIn; rw [List.mem_filter]; exact ⟨(rows_all _ _ _).2 ⟨h, ha⟩, by simpa using (sym b a hb' ha).trans hb⟩, .inr ⟨hi, hj⟩⟩
    · rintro ⟨⟨a, b⟩, he, h⟩
      unfold edgesIn at he
      rw [List.mem_filter] at he
      obtain ⟨he, hb⟩ := he
      obtain ⟨h1, h2⟩ := (rows_all _ _ _).1 he
      have hb1 : bt L a b = 1 := by simpa using hb
      rcases h with ⟨hi, hj⟩ | ⟨hi, hj⟩
      · exact ⟨(a, b), (hv _ _).2 ⟨by omega, h2⟩, hb1, hi, hj⟩
      · exact ⟨(b, a), (hv _ _).2 ⟨h2, by omega⟩, (sym b a h2 (by omega)).trans hb1, hi, hj⟩
  · intro e he
    unfold edgesIn at he
    rw [List.mem_filter] at he
    have := rows_mem _ _ he.1
    omega
end Go.Proofs.YtamabhdbcmjbjaaDoor

/- Names of nodes: each of n numbers once. Plain mathematics, no condition. -/

namespace Go.Proofs.YtamabhdbcmjbjaaDoor
open Go Go.RowKit

theorem nodup_len {P Q : List Nat} (h : P.Nodup) (hs : ∀ x ∈ P, x ∈ Q) : P.length ≤ Q.length := by
  induction P generalizing Q with
  | nil => simp
  | cons x P ih =>
    obtain ⟨hx, hP⟩ := List.nodup_cons.1 h
    have hq := hs x (by simp)
    have h1 := ih hP (Q := Q.erase x) (fun y hy => (List.mem_erase_of_ne (fun (e : y = x) => hx (e ▸ hy))).2 (hs y (by simp [hy])))
    have h2 := List.length_erase_of_mem hq
    have h3 : 0 < Q.length := List.length_pos_of_mem hq
    rw [List.length_cons]
    omega

theorem dup_of_not {P : List Nat} (h : ¬ P.Nodup) : ∃ x, x ∈ P ∧ ∀ y ∈ P, y ∈ P.erase x := by
  induction P with
  | nil => simp at h
  | cons x P ih =>
    by_cases hx : x ∈ P
    · refine ⟨x, by simp, fun y hy => ?_⟩
      rw [List.erase_cons_head]
      rcases List.mem_cons.1 hy with rfl | h'
      · exact hx
      · exact h'
    · have hP : ¬ P.Nodup := fun hn => h (List.nodup_cons.2 ⟨hx, hn⟩)
      obtain ⟨z, hz, hall⟩ := ih hP
      have hxz : x ≠ z := fun e => hx (e ▸ hz)
      refine ⟨z, by simp [hz], fun y hy => ?_⟩
      rw [List.erase_cons_tail (by simpa using hxz)]
      rcases List.mem_cons.1 hy with rfl | h'
      · simp
      · simp [hall y h']

/-- The set of the numbers that have come. -/
def seenOf (P : List Nat) : Nat := P.foldl (fun s x => s ||| 2 ^ x) 0
theorem seenOf_snoc (P : List Nat) (x : Nat) : seenOf (P ++ [x]) = seenOf P ||| 2 ^ x := by simp [seenOf]
theorem seenOf_bit (P : List Nat) (j : Nat) : (seenOf P).testBit j = true ↔ j ∈ P := by
  induction P using snoc_ind with
  | h0 => simp [seenOf]
  | h1 l x ih => rw [seenOf_snoc, Nat.testBit_or, Nat.testBit_two_pow, Bool.or_eq_true, ih, decide_eq_true_eq, List.mem_append, List.mem_singleton]; exact or_congr Iff.rfl ⟨Eq.symm, Eq.symm⟩
theorem seenOf_lt (P : List Nat) (n : Nat) (h : ∀ x ∈ P, x < n) : seenOf P < 2 ^ n := by
  induction P using snoc_ind with
  | h0 => exact Nat.two_pow_pos n
  | h1 l x ih =>
    rw [seenOf_snoc]
    exact Nat.or_lt_two_pow (ih fun y hy => h y (by simp [hy])) (Nat.pow_lt_pow_right (by omega) (h x (by simp)))
theorem seenOf_full (P : List Nat) (n : Nat) (h : ∀ x ∈ P, x < n) : seenOf P = 2 ^ n - 1 ↔ ∀ j, j < n → j ∈ P := by
  constructor
  · intro e j hj
    rw [← seenOf_bit, e, Nat.testBit_two_pow_sub_one]
    simpa using hj
  · intro hall
    refine Nat.eq_of_testBit_eq fun j => ?_
    rw [Nat.testBit_two_pow_sub_one]
    by_cases hj : j < n
    · rw [(seenOf_bit P j).2 (hall j hj)]; simp [hj]
    · have : j ∉ P := fun hm => hj (h j hm)
      have h0 : (seenOf P).testBit j = false := by
        cases e : (seenOf P).testBit j
        · rfl
        · exact absurd ((seenOf_bit P j).1 e) this
      rw [h0]; simp [hj]
/-- n numbers below n: all have come just if none has come twice. -/
theorem names_iff (P : List Nat) (n : Nat) (hl : P.length = n) (h : ∀ x ∈ P, x < n) : seenOf P = 2 ^ n - 1 ↔ P.Nodup := by
  rw [seenOf_full P n h]
  constructor
  · intro hall
    refine Classical.byContradiction fun hn => ?_
    obtain ⟨x, hx, hk⟩ := dup_of_not hn
    have h1 := nodup_len (List.nodup_range (n := n)) (Q := P.erase x) (fun y hy => hk y (hall y (by simpa using hy)))
    have h2 := List.length_erase_of_mem hx
    have h3 : 0 < P.length := List.length_pos_of_mem hx
    rw [List.length_range] at h1
    omega
  · intro hn j hj
    refine Classical.byContradiction fun hm => ?_
    have h1 := nodup_len (List.nodup_cons.2 ⟨hm, hn⟩) (Q := List.range n) (fun y hy => by
      rcases List.mem_cons.1 hy with rfl | h'
      · simpa using hj
      · simpa using h y h')
    rw [List.length_cons, List.length_range] at h1
    omega
end Go.Proofs.YtamabhdbcmjbjaaDoor

/- What names are: each of n numbers once. Plain mathematics, no condition. -/

namespace Go.Proofs.YtamabhdbcmjbjaaDoor
open Go Go.RowKit
set_option linter.unusedVariables false

def natOf (P : List Int) : List Nat := P.map Int.toNat
def InN (P : List Int) (n k : Nat) : Prop := 0 ≤ P[k]?.getD 0 ∧ P[k]?.getD 0 < (n : Int)
def IsNames (P : List Int) (n : Nat) : Prop := P.length = n ∧ (∀ k, k < P.length → InN P n k) ∧ (natOf P).Nodup
theorem natOf_take (P : List Int) (k : Nat) (h : k < P.length) : (natOf P).take (k + 1) = (natOf P).take k ++ [(P[k]?.getD 0).toNat] := by
  unfold natOf
  rw [List.take_succ_eq_append_getElem (by simpa using h)]
  simp [h]
theorem natOf_mem {P : List Int} {n k : Nat} (h : ∀ u, u < k → InN P n u) (hk : k ≤ P.length) : ∀ x ∈ (natOf P).take k, x < n := by
  intro x hx
  obtain ⟨i, hi, rfl⟩ := List.mem_iff_getElem.1 hx
  simp [natOf] at hi ⊢
  have := h i (by omega)
  unfold InN at this
  have e : P[i]?.getD 0 = P[i] := by simp [show i < P.length by omega]
  rw [e] at this
  omega
theorem names_tell {P : List Int} {n : Nat} (hin : ∀ u, u < P.length → InN P n u) : (P.length = n ∧ seenOf (natOf P) = 2 ^ n - 1) ↔ IsNames P n := by
  have hm : ∀ x ∈ natOf P, x < n := by
    have := natOf_mem hin (Nat.le_refl _)
    rwa [show P.length = (natOf P).length by simp [natOf], List.take_length] at this
  constructor
  · rintro ⟨h1, h2⟩
    exact ⟨h1, hin, (names_iff _ n (by simpa [natOf] using h1) hm).1 h2⟩
  · rintro ⟨h1, _, h3⟩
    exact ⟨h1, (names_iff _ n (by simpa [natOf] using h1) hm).2 h3⟩

end Go.Proofs.YtamabhdbcmjbjaaDoor

/- All places of a square, row by row; a name as a natural number. Plain mathematics, no condition. -/

namespace Go.Proofs.YtamabhdbcmjbjaaDoor
open Go Go.RowKit

def grid (n v : Nat) : List (Nat × Nat) := (List.range v).flatMap fun a => (List.range n).map fun b => (a, b)
def gridTo (n v x : Nat) : List (Nat × Nat) := grid n v ++ (List.range x).map fun b => (v, b)
theorem grid_zero (n : Nat) : grid n 0 = [] := rfl
theorem gridTo_zero (n v : Nat) : gridTo n v 0 = grid n v := by simp [gridTo]
theorem gridTo_succ (n v x : Nat) : gridTo n v (x + 1) = gridTo n v x ++ [(v, x)] := by simp [gridTo, List.range_succ]
theorem gridTo_end (n v : Nat) : gridTo n v n = grid n (v + 1) := by simp [gridTo, grid, List.range_succ]
theorem grid_all (n a b : Nat) : (a, b) ∈ grid n n ↔ a < n ∧ b < n := by
  unfold grid
  simp
theorem gridTo_mem (n v x : Nat) (hv : v < n) (hx : x ≤ n) : ∀ e ∈ gridTo n v x, e.1 < n ∧ e.2 < n := by
  rintro ⟨a, b⟩ h
  unfold gridTo grid at h
  simp at h
  omega

/-- A name. -/
def nm (P : List Int) (v : Nat) : Nat := (P[v]?.getD 0).toNat
theorem nm_int {P : List Int} {n v : Nat} (h : IsNames P n) (hv : v < n) : P[v]?.getD 0 = (nm P v : Int) ∧ nm P v < n := by
  have h1 := h.2.1 v (by rw [h.1]; exact hv)
  unfold InN at h1
  unfold nm
  omega
theorem nm_ne {P : List Int} {n v x : Nat} (h : IsNames P n) (hv : v < n) (hx : x < n) (hne : v ≠ x) : nm P v ≠ nm P x := fun e => by
  have h1 := h.2.2
  have hl : (natOf P).length = n := by simp [natOf, h.1]
  have hv2 : v < P.length := by have := h.1; omega
  have hx2 : x < P.length := by have := h.1; omega
  have g1 : (natOf P)[v]'(by omega) = nm P v := by simp [natOf, nm, hv2]
  have g2 : (natOf P)[x]'(by omega) = nm P x := by simp [natOf, nm, hx2]
  have hp := List.pairwise_iff_getElem.1 h1
  rcases Nat.lt_or_gt_of_ne hne with h | h
  · exact hp v x (by omega) (by omega) h (by rw [g1, g2]; exact e)
  · exact hp x v (by omega) (by omega) h (by rw [g1, g2]; exact e.symm)
theorem mrun_lt (L : List Int) (n : Nat) (p : Nat → Nat) (es : List (Nat × Nat)) (hp : ∀ e ∈ es, p e.2 < 6) : ∀ x ∈ mrun L n p es, x < 2 ^ 6 := by
  induction es using snoc_ind with
  | h0 => intro x hx; simp [mrun] at hx; omega
  | h1 l x ih =>
    rw [mrun_snoc]
    unfold orAt
    have h1 := ih (fun e he => hp e (by simp [he]))
    refine set_lt h1 _ _ (Nat.or_lt_two_pow (get_lt h1 _ (by decide)) ?_)
    exact bit_shift (bt_le _ _ _) (hp x (by simp))
end Go.Proofs.YtamabhdbcmjbjaaDoor

/- The graph of some nodes: the model's way and the program's make one list. Plain mathematics, no condition. -/

namespace Go.Proofs.YtamabhdbcmjbjaaDoor
open Go Go.RowKit
set_option linter.unusedVariables false

/-- The node at a place. -/
def at_ (ns : List Nat) (i : Nat) : Nat := ns[i]?.getD 0
theorem at_lt {ns : List Nat} {n : Nat} (h : ∀ x ∈ ns, x < n) {i : Nat} (hi : i < ns.length) : at_ ns i < n := by
  unfold at_
  rw [List.getElem?_eq_getElem hi]
  exact h _ (List.getElem_mem _)
theorem ints_at {ns : List Nat} {i : Nat} (hi : i < ns.length) : (ints ns)[i]?.getD 0 = ((at_ ns i : Nat) : Int) := by rw [ints_get]; rfl
/-- The model's row of a node: the places of its neighbours. -/
def rowTo (L : List Int) (ns : List Nat) (a k : Nat) : Nat := (List.range k).foldl (fun r j => r ||| bt L a (at_ ns j) * 2 ^ j) 0
theorem rowTo_zero (L : List Int) (ns : List Nat) (a : Nat) : rowTo L ns a 0 = 0 := rfl
theorem rowTo_succ (L : List Int) (ns : List Nat) (a k : Nat) : rowTo L ns a (k + 1) = rowTo L ns a k ||| bt L a (at_ ns k) * 2 ^ k := by simp [rowTo, List.range_succ]
theorem rowTo_bit (L : List Int) (ns : List Nat) (a k j : Nat) : (rowTo L ns a k).testBit j = true ↔ j < k ∧ bt L a (at_ ns j) = 1 := by
  induction k with
  | zero => simp [rowTo]
  | succ k ih =>
    rw [rowTo_succ, Nat.testBit_or, Bool.or_eq_true, ih, bit_test _ _ _ (bt_le _ _ _)]
    simp only [Bool.and_eq_true, decide_eq_true_eq]
    constructor
    · rintro (⟨h1, h2⟩ | ⟨h1, h2⟩)
      · exact ⟨by omega, h2⟩
      · subst h2; exact ⟨by omega, h1⟩
    · rintro ⟨h1, h2⟩
      by_cases h : j = k
      · subst h; exact .inr ⟨h2, rfl⟩
      · exact .inl ⟨by omega, h2⟩
theorem rowTo_lt (L : List Int) (ns : List Nat) (a k : Nat) (hk : k ≤ 6) : rowTo L ns a k < 2 ^ 6 := by
  induction k with
  | zero => show 0 < 2 ^ 6; decide
  | succ k ih => rw [rowTo_succ]; exact Nat.or_lt_two_pow (ih (by omega)) (bit_shift (bt_le _ _ _) (by omega))
/-- The model's list, and its first rows. -/
def partTo (L : List Int) (ns : List Nat) (i : Nat) : List Nat := (List.range i).map fun x => rowTo L ns (at_ ns x) ns.length
theorem partTo_zero (L : List Int) (ns : List Nat) : partTo L ns 0 = [] := rfl
theorem partTo_succ (L : List Int) (ns : List Nat) (i : Nat) : partTo L ns (i + 1) = partTo L ns i ++ [rowTo L ns (at_ ns i) ns.length] := by simp [partTo, List.range_succ]
theorem partTo_length (L : List Int) (ns : List Nat) (i : Nat) : (partTo L ns i).length = i := by simp [partTo]
theorem partTo_bit (L : List Int) (ns : List Nat) (i j : Nat) : ((partTo L ns ns.length)[i]?.getD 0).testBit j = true ↔ i < ns.length ∧ j < ns.length ∧ bt L (at_ ns i) (at_ ns j) = 1 := by
  by_cases h : i < ns.length
  · have e : (partTo L ns ns.length)[i]?.getD 0 = rowTo L ns (at_ ns i) ns.length := by simp [partTo, h]
    rw [e, rowTo_bit]
    simp [h]
  · have e : (partTo L ns ns.length)[i]?.getD 0 = 0 := by simp [partTo, h]
    rw [e]
    simp [h]

/-- The program's edges among the nodes kept. -/
def keptIn (L : List Int) (ns : List Nat) (ps : List (Nat × Nat)) : List (Nat × Nat) := ps.filter fun e => bt L (at_ ns e.1) (at_ ns e.2) == 1
theorem keptIn_snoc (L : List Int) (ns : List Nat) (ps : List (Nat × Nat)) (e : Nat × Nat) : keptIn L ns (ps ++ [e]) = keptIn L ns ps ++ (if bt L (at_ ns e.1) (at_ ns e.2) = 1 then [e] else []) := by
  unfold keptIn
  rw [List.filter_append]
  by_cases h : bt L (at_ ns e.1) (at_ ns e.2) = 1 <;> simp [h]
theorem part_eq (L : List Int) (hg : IsGraph L) (ns : List Nat) (hns : ∀ x ∈ ns, x < L.length) : partTo L ns ns.length = lrun ns.length id (keptIn L ns (rows ns.length)) := by
  have hat : ∀ i, i < ns.length → at_ ns i < L.length := fun i hi => by
    unfold at_
    rw [List.getElem?_eq_getElem hi]
    exact hns _ (List.getElem_mem _)
  have sym : ∀ a b, a < L.length → b < L.length → bt L a b = bt L b a := fun a b ha hb => by
    rcases Nat.lt_trichotomy a b with h | h | h
    · exact ((hg.2.2 b hb).2.2 a h).symm
    · rw [h]
    · exact (hg.2.2 a ha).2.2 b h
  refine list_bits (by rw [partTo_length, lrun_length]) fun i j => ?_
  rw [partTo_bit, lrun_bit ns.length id (fun v hv => hv)]
  · constructor
    · rintro ⟨hi, hj, hb⟩
      rcases Nat.lt_trichotomy i j with h | h | h
      · exact ⟨(i, j), by unfold keptIn; rw [List.mem_filter]; exact ⟨(rows_all _ _ _).2 ⟨h, hj⟩, by simpa using hb⟩, .inl ⟨rfl, rfl⟩⟩
      · subst h
        have := (hg.2.2 _ (hat i hi)).2.1
        omega
      · exact ⟨(j, i), by unfold keptIn; rw [List.mem_filter]; exact ⟨(rows_all _ _ _).2 ⟨h, hi⟩, by simpa using (sym _ _ (hat j hj) (hat i hi)).trans hb⟩, .inr ⟨rfl, rfl⟩⟩
    · rintro ⟨⟨a, b⟩, he, h⟩
      unfold keptIn at he
      rw [List.mem_filter] at he
      obtain ⟨he, hb⟩ := he
      obtain ⟨h1, h2⟩ := (rows_all _ _ _).1 he
      have hb1 : bt L (at_ ns a) (at_ ns b) = 1 := by simpa using hb
      rcases h with ⟨hi, hj⟩ | ⟨hi, hj⟩
      · have hi : i = a := hi
        have hj : j = b := hj
        subst hi; subst hj
        exact ⟨by omega, h2, hb1⟩
      · have hi : i = b := hi
        have hj : j = a := hj
        subst hi; subst hj
        exact ⟨h2, by omega, (sym _ _ (hat _ h2) (hat _ (by omega))).trans hb1⟩
  · intro e he
    unfold keptIn at he
    rw [List.mem_filter] at he
    have := rows_mem _ _ he.1
    omega
theorem lrun_lt (n : Nat) (p : Nat → Nat) (es : List (Nat × Nat)) (h : ∀ e ∈ es, p e.1 < 6 ∧ p e.2 < 6) : ∀ x ∈ lrun n p es, x < 2 ^ 6 := by
  induction es using snoc_ind with
  | h0 => intro x hx; simp [lrun] at hx; omega
  | h1 l x ih =>
    rw [lrun_snoc]
    exact lnk_lt (ih (fun e he => h e (by simp [he]))) _ _ _ (h x (by simp)).1 (h x (by simp)).2 (Nat.le_refl 1)
end Go.Proofs.YtamabhdbcmjbjaaDoor

/- Whether a beginning of names fits two graphs; the names that make one the other one. Plain mathematics. -/



namespace Go.Proofs.YtamabhdbcmjbjaaDoor
open Go.RowKit
set_option linter.unusedVariables false
set_option maxRecDepth 100000

def okAt (L M : List Int) (P : List Nat) (v : Nat) : Bool := bt L v (P.length - 1) == bt M (at_ P v) (at_ P (P.length - 1))
def fitB (L M : List Int) (P : List Nat) : Bool := (List.range (P.length - 1)).all (okAt L M P)
theorem fit_of {L M : List Int} {P : List Nat} (h : ∀ v, v < P.length - 1 → okAt L M P v = true) : fitB L M P = true := List.all_eq_true.2 fun v hv => h v (List.mem_range.1 hv)
theorem fit_not {L M : List Int} {P : List Nat} {v : Nat} (hv : v < P.length - 1) (h : okAt L M P v = false) : fitB L M P = false := by
  cases e : fitB L M P with
  | false => rfl
  | true =>
    have := List.all_eq_true.1 e v (List.mem_range.2 hv)
    rw [h] at this
    cases this
def likeL (L M : List Int) : List (List Nat) := allNames (fun _ P => fitB L M P) L.length
end Go.Proofs.YtamabhdbcmjbjaaDoor

/- All names, one node more at a time; those that come to a list by trying. Plain mathematics, no condition. -/


namespace Go.Proofs.YtamabhdbcmjbjaaDoor
open Go Go.RowKit
set_option linter.unusedVariables false
set_option maxRecDepth 100000

/-- The names that are left. -/
def left (n : Nat) (P : List Nat) : List Nat := (List.range n).filter fun x => !P.contains x
def ext (n : Nat) (P : List Nat) : List (List Nat) := (left n P).map fun v => P ++ [v]
def extK (n : Nat) : Nat → List (List Nat) → List (List Nat)
  | 0, Ls => Ls
  | k + 1, Ls => extK n k (Ls.flatMap (ext n))
def permsTo (n k : Nat) : List (List Nat) := extK n k [[]]
theorem extK_append (n k : Nat) (A B : List (List Nat)) : extK n k (A ++ B) = extK n k A ++ extK n k B := by
  induction k generalizing A B with
  | zero => rfl
  | succ k ih => unfold extK; rw [List.flatMap_append, ih]
theorem extK_nil (n k : Nat) : extK n k [] = [] := by
  induction k with
  | zero => rfl
  | succ k ih => unfold extK; simpa using ih
theorem extK_flat (n k : Nat) (A : List (List Nat)) : extK n k A = A.flatMap fun P => extK n k [P] := by
  induction A with
  | nil => simp [extK_nil]
  | cons P A ih => rw [show P :: A = [P] ++ A from rfl, extK_append, ih]; simp
theorem extK_succ' (n k : Nat) (A : List (List Nat)) : extK n (k + 1) A = (extK n k A).flatMap (ext n) := by
  induction k generalizing A with
  | zero => rfl
  | succ k ih => show extK n (k + 1) (A.flatMap (ext n)) = _; rw [ih]; rfl
theorem permsTo_succ (n k : Nat) : permsTo n (k + 1) = (permsTo n k).flatMap (ext n) := extK_succ' n k _
theorem mem_left {n : Nat} {P : List Nat} {v : Nat} : v ∈ left n P ↔ v < n ∧ v ∉ P := by simp [left]
theorem left_length (n : Nat) (P : List Nat) : (left n P).length ≤ n := by
  have := List.length_filter_le (fun x => !P.contains x) (List.range n)
  simpa [left] using this
/-- What all of them are. -/
def Names (n k : Nat) (P : List Nat) : Prop := P.length = k ∧ P.Nodup ∧ ∀ x ∈ P, x < n
theorem ext_names {n k : Nat} {P Q : List Nat} (h : Names n k P) (hq : Q ∈ ext n P) : Names n (k + 1) Q := by
  unfold ext at hq
  obtain ⟨v, hv, rfl⟩ := List.mem_map.1 hq
  obtain ⟨h1, h2⟩ := mem_left.1 hv
  refine ⟨by simp [h.1], ?_, ?_⟩
  · rw [List.nodup_append]
    exact ⟨h.2.1, by simp, fun a ha b hb e => h2 (by simp at hb; subst hb; subst e; exact ha)⟩
  · intro x hx
    rcases List.mem_append.1 hx with hx | hx
    · exact h.2.2 x hx
    · rw [List.mem_singleton.1 hx]; exact h1
theorem perms_names (n k : Nat) : ∀ P ∈ permsTo n k, Names n k P := by
  induction k with
  | zero => intro P hP; simp [permsTo, extK] at hP; subst hP; exact ⟨rfl, by simp, by simp⟩
  | succ k ih =>
    intro P hP
    rw [permsTo_succ, List.mem_flatMap] at hP
    obtain ⟨R, hR, hP⟩ := hP
    exact ext_names (ih R hR) hP
theorem ext_length (n : Nat) (P : List Nat) : (ext n P).length ≤ n := by unfold ext; rw [List.length_map]; exact left_length n P
theorem flat_length (n : Nat) (A : List (List Nat)) : (A.flatMap (ext n)).length ≤ A.length * n := by
  induction A with
  | nil => simp
  | cons P A ih =>
    rw [List.flatMap_cons, List.length_append, List.length_cons, Nat.succ_mul]
    have := ext_length n P
    omega
theorem perms_length (n k : Nat) (hn : n ≤ 6) (hk : k ≤ 6) : (permsTo n k).length ≤ 46656 := by
  have h : ∀ k, (permsTo n k).length ≤ 6 ^ k := by
    intro k
    induction k with
    | zero => simp [permsTo, extK]
    | succ k ih =>
      rw [permsTo_succ]
      have h1 := flat_length n (permsTo n k)
      have h2 : (permsTo n k).length * n ≤ 6 ^ k * 6 := Nat.mul_le_mul ih hn
      rw [Nat.pow_succ]
      omega
  exact Nat.le_trans (h k) (Nat.pow_le_pow_right (n := 6) (by omega) hk)

/-! ### trying -/
def leaves (f : List Nat → Bool) : Nat → List Nat → Nat → List (List Nat)
  | 0, P, _ => [P]
  | k + 1, P, s => (nodesL s).flatMap fun v => if f (P ++ [v]) = true then leaves f k (P ++ [v]) (less s (2 ^ v)) else []
theorem foldl_flat {α : Type} (g : Nat → List α) (vs : List Nat) (acc : List α) : vs.foldl (fun a v => a ++ g v) acc = acc ++ vs.flatMap g := by
  induction vs generalizing acc with
  | nil => simp
  | cons v vs ih => rw [List.foldl_cons, ih]; simp
theorem dfs_leaves (f : List Nat → Bool) (k : Nat) : ∀ (acc : List (List Nat)) (P : List Nat) (s : Nat), dfs (fun _ P => f P) k acc P s = acc ++ leaves f k P s := by
  induction k with
  | zero => intro acc P s; rfl
  | succ k ih =>
    intro acc P s
    rw [dfs_succ]
    unfold runF leaves
    rw [← foldl_flat]
    congr 1
    funext a v
    unfold stepF
    split
    · exact ih _ _ _
    · simp
/-- All beginnings longer than p fit. -/
def okFrom (f : List Nat → Bool) (p : Nat) (Q : List Nat) : Bool := (List.range Q.length).all fun i => decide (i < p) || f (Q.take (i + 1))
theorem okFrom_iff (f : List Nat → Bool) (p : Nat) (Q : List Nat) : okFrom f p Q = true ↔ ∀ i, p ≤ i → i < Q.length → f (Q.take (i + 1)) = true := by
  unfold okFrom
  rw [List.all_eq_true]
  constructor
  · intro h i h1 h2
    have := h i (List.mem_range.2 h2)
    simpa [show ¬ i < p by omega] using this
  · intro h i hi
    by_cases h1 : i < p
    · simp [h1]
    · simp [h i (by omega) (List.mem_range.1 hi)]
theorem extK_take (n k : Nat) : ∀ (P Q : List Nat), Q ∈ extK n k [P] → Q.take P.length = P ∧ Q.length = P.length + k := by
  induction k with
  | zero => intro P Q h; simp [extK] at h; subst h; simp
  | succ k ih =>
    intro P Q h
    unfold extK at h
    rw [extK_flat, List.mem_flatMap] at h
    obtain ⟨R, hR, hQ⟩ := h
    simp at hR
    unfold ext at hR
    obtain ⟨v, _, rfl⟩ := List.mem_map.1 hR
    obtain ⟨h1, h2⟩ := ih _ _ hQ
    rw [List.length_append, List.length_singleton] at h1 h2
    refine ⟨?_, by omega⟩
    have h3 := congrArg (List.take P.length) h1
    rw [List.take_take] at h3
    simpa [Nat.min_eq_left (Nat.le_succ P.length)] using h3
/-- A set is the names that are left. -/
def Comp (n : Nat) (P : List Nat) (s : Nat) : Prop := nodesL s = left n P
theorem comp_next : ∀ {n : Nat} {P : List Nat} {s v : Nat}, s < 64 → Comp n P s → v ∈ nodesL s → Comp n (P ++ [v]) (less s (2 ^ v)) := by
  intro n P s v hs h hv
  have h1 := nodes_mem.1 hv
  have h2 := (less_bit ⟨s, hs⟩ ⟨v, h1.1⟩).2 h1.2
  dsimp only at h2
  unfold Comp at h ⊢
  rw [h2.1, h]
  unfold left
  rw [List.filter_filter]
  refine List.filter_congr fun x hx => ?_
  by_cases h3 : x = v
  · subst h3; simp
  · simp [h3]
theorem flat_congr {α β : Type} {l : List α} {f g : α → List β} (h : ∀ a ∈ l, f a = g a) : l.flatMap f = l.flatMap g := by
  induction l with
  | nil => rfl
  | cons a l ih => rw [List.flatMap_cons, List.flatMap_cons, h a (by simp), ih fun b hb => h b (by simp [hb])]
theorem leaves_filter (f : List Nat → Bool) (n k : Nat) : ∀ (P : List Nat) (s : Nat), s < 64 → Comp n P s → leaves f k P s = (extK n k [P]).filter (okFrom f P.length) := by
  induction k with
  | zero =>
    intro P s hs h
    have e : okFrom f P.length P = true := (okFrom_iff _ _ _).2 (fun i h1 h2 => absurd h2 (by omega))
    simp [leaves, extK, e]
  | succ k ih =>
    intro P s hs h
    unfold leaves extK
    rw [extK_flat, show [P].flatMap (ext n) = ext n P by simp, List.filter_flatMap, h]
    unfold ext
    rw [List.flatMap_map]
    refine flat_congr fun v hv => ?_
    have hvs : v ∈ nodesL s := by rw [h]; exact hv
    have hc := comp_next hs h hvs
    have hl : less s (2 ^ v) < 64 := (less_bit ⟨s, hs⟩ ⟨v, (nodes_mem.1 hvs).1⟩).1
    rw [ih _ _ hl hc]
    have hlen : (P ++ [v]).length = P.length + 1 := by simp
    by_cases hf : f (P ++ [v]) = true
    · rw [if_pos hf]
      refine List.filter_congr fun Q hQ => ?_
      obtain ⟨h1, h2⟩ := extK_take n k _ _ hQ
      rw [Bool.eq_iff_iff, okFrom_iff, okFrom_iff, hlen]
      constructor
      · intro h3 i h4 h5
        by_cases h6 : i = P.length
        · subst h6; rw [← hlen, h1]; exact hf
        · exact h3 i (by omega) h5
      · intro h3 i h4 h5
        exact h3 i (by omega) h5
    · rw [if_neg hf]
      symm
      rw [List.filter_eq_nil_iff]
      intro Q hQ
      obtain ⟨h1, h2⟩ := extK_take n k _ _ hQ
      rw [okFrom_iff]
      intro h3
      have := h3 P.length (Nat.le_refl _) (by rw [h2, hlen]; omega)
      rw [← hlen, h1] at this
      exact hf this
theorem full_comp : ∀ n : Fin 7, nodesL (2 ^ n.val - 1) = List.range n.val := by decide
theorem likeL_eq (L M : List Int) (h6 : L.length ≤ 6) : likeL L M = (permsTo L.length L.length).filter (okFrom (fitB L M) 0) := by
  unfold likeL allNames
  rw [dfs_leaves (fitB L M), List.nil_append]
  have h1 := full_comp ⟨L.length, by omega⟩
  dsimp only at h1
  exact leaves_filter (fitB L M) L.length L.length [] _ (by have := two_le h6; have := two_pos L.length; omega) (by unfold Comp left; rw [h1]; exact (List.filter_eq_self.2 (by simp)).symm)
end Go.Proofs.YtamabhdbcmjbjaaDoor

/- The model's l1Named: each place of each row is put where its names say. -/




namespace Go.Proofs.YtamabhdbcmjbjaaDoor
open Go.RowKit
set_option linter.unusedVariables false

/-- Between two places: the list holds those that are done. -/
def NaRel (w wr : World) (g n : Nat) (L P : List Int) (pre : List (Nat × Nat)) : Prop := Row wr w.heap.size (.slice (some ⟨g, 0, none⟩) n n) (ints (mrun L n (nm P) pre)) ∧ Below w.heap.size w wr

/-- All that one place's round asks, and what it leaves. -/
theorem na_step {w wr : World} {g n : Nat} {L P : List Int} (hn : n = L.length) (hg : IsGraph L) (hP : IsNames P n) {v x : Nat} (hv : v < n) (hx : x < n) (hG : g = w.heap.size) (hq : NaRel w wr g n L P (gridTo n v x)) :
    ∃ X a b bit q u : Nat, L[v]?.getD 0 = (X : Int) ∧ P[v]?.getD 0 = (a : Int) ∧ P[x]?.getD 0 = (b : Int) ∧ a < n ∧ b < n ∧
      bits .and .i64 ((X : Int) / 2 ^ x) 1 = (bit : Int) ∧ (wrap64 ((bit : Int) * 2 ^ b) = (q : Int) ∧ IntKind.i64.wrap ((bit : Int) * 2 ^ b) = (q : Int)) ∧
      bits .or .i64 (u : Int) (q : Int) = ((u ||| q : Nat) : Int) ∧
      (wr.cell? ⟨g, a, none⟩ = some (.int .i64 u) ∧ wr.frozen? ⟨g, a, none⟩ = false) ∧
      ∃ w2 w3, w2 = wr.drew ∧ w2.cell? ⟨g, a, none⟩ = some (.int .i64 u) ∧ w2.frozen? ⟨g, a, none⟩ = false ∧ w3 = w2.setCell ⟨g, a, none⟩ (.int .i64 ((u ||| q : Nat) : Int)) ∧ Hid (NaRel w w3 g n L P (gridTo n v (x + 1))) := by
  have h6 := hg.2.1
  have hin := (hg.2.2 v (by omega)).1
  have hX := ent_int hin
  have hXl := ent_lt hin
  have h64 := two_le h6
  obtain ⟨ea, ha⟩ := nm_int hP hv
  obtain ⟨eb, hb⟩ := nm_int hP hx
  have hL : (mrun L n (nm P) (gridTo n v x)).length = n := mrun_length _ _ _ _
  have hsm := mrun_lt L n (nm P) (gridTo n v x) (fun e he => by
    have h1 := gridTo_mem n v x hv (by omega) e he
    have h2 := nm_int hP h1.2
    omega)
  have hst := mrun_snoc L n (nm P) (gridTo n v x) (v, x)
  rw [← gridTo_succ] at hst
  obtain ⟨bit, ebit, hbit, f1⟩ := and_facts (ent L v) x (by omega)
  have e1 : bt L v x = bit := by unfold bt; exact ebit.symm
  obtain ⟨b, ebb⟩ : ∃ b, b = nm P x := ⟨_, rfl⟩
  obtain ⟨a, eaa⟩ : ∃ a, a = nm P v := ⟨_, rfl⟩
  rw [← ebb] at eb hb
  rw [← eaa] at ea ha
  obtain ⟨q, eq⟩ : ∃ q, q = bit * 2 ^ b := ⟨_, rfl⟩
  have hq6 := bit_pow (k := b) hbit (by omega)
  rw [← eq] at hq6
  obtain ⟨u, eu⟩ : ∃ u, u = (mrun L n (nm P) (gridTo n v x))[a]?.getD 0 := ⟨_, rfl⟩
  have hu6 : u < 2 ^ 6 := by rw [eu]; exact get_lt hsm a (by omega)
  have f2 := wrap_bit bit b q hbit (by omega) eq
  have f3 := i64_or_nat u q (Nat.lt_trans hu6 (by decide)) (Nat.lt_trans hq6 (by decide))
  have hrow := hq.1
  have hl1 : a < (ints (mrun L n (nm P) (gridTo n v x))).length := by rw [ints_length]; omega
  have hc : wr.cell? ⟨g, a, none⟩ = some (.int .i64 u) := by rw [hrow.cellAt a hl1, ints_get, ← eu]
  have hf : wr.frozen? ⟨g, a, none⟩ = false := hrow.frozenAt a hl1
  have r1 := hrow.set a hl1 ((u ||| q : Nat) : Int)
  rw [ints_set] at r1
  have el : mrun L n (nm P) (gridTo n v (x + 1)) = (mrun L n (nm P) (gridTo n v x)).set a (u ||| q) := by
    rw [hst]
    unfold orAt
    dsimp only
    rw [e1, ← ebb, ← eaa, ← eq, ← eu]
  rw [← el] at r1
  refine ⟨ent L v, a, b, bit, q, u, hX, ea, eb, ha, hb, f1, ⟨f2, by rw [IntKind.wrap_i64]; unfold wrap64 at f2; exact f2⟩, f3, ⟨hc, hf⟩, _, _, rfl, hc, hf, rfl, Lib.hid ⟨r1, ?_⟩⟩
  exact (hq.2.drew).setCell (p := ⟨g, a, none⟩) (by show w.heap.size ≤ g; omega) _

set_option maxRecDepth 100000 in
set_option maxHeartbeats 2000000 in
theorem specNamed_seen (A A' : Option Addr) (c c' : Nat) (L P : List Int) (hg : IsGraph L) (hP : IsNames P L.length) (w : World) (h : Seen w A L) (h' : Seen w A' P) :
    Calls Tryd.prog 55 #[.slice A L.length c, .slice A' P.length c'] w (Gave w (ints (mrun L L.length (nm P) (grid L.length L.length)))) := by
  have h1 := hg.1
  have h6 := hg.2.1
  have hpl := hP.1
  obtain ⟨n, hn⟩ : ∃ n, n = L.length := ⟨_, rfl⟩
  rw [← hn] at h1 h6 hP hpl ⊢
  rw [hpl]
  have hmk := run_make_ints n (by omega)
  obtain ⟨g, eg⟩ : ∃ g, g = w.heap.size := ⟨_, rfl⟩
  have HN := Lib.hid hn
  have HPL := Lib.hid hpl
  have H := Lib.hid h
  have H' := Lib.hid h'
  have HG := Lib.hid hg
  have HP := Lib.hid hP
  have EG := Lib.hid eg
  have R0 := Lib.hid (madeW_row w n (by omega))
  have B0 := Lib.hid (madeW_below w n)
  clear h h' hg hn hP hpl eg
  go_enter Tryd.func55, Tryd.ntmps55
  go_wp2
  clear hmk
  obtain ⟨w0, hw0⟩ : ∃ w0, w0 = madeW w n := ⟨_, rfl⟩
  rw [← hw0] at R0 B0 ⊢
  rw [← EG.out] at R0 ⊢
  clear hw0
  go_loopw [6] (fun v wr => ∃ y : Nat, y ≤ n ∧ v = .int .i64 y ∧ Hid (NaRel w wr g n L P (grid n y))) (fun v _ => n - (intOf v).toNat)
  case atStart => exact ⟨0, by omega, rfl, Lib.hid ⟨by rw [grid_zero]; rw [EG.out] at *; exact R0.out, B0.out⟩⟩
  case round =>
    obtain ⟨y, hyn, rfl, hr⟩ := hrel
    obtain ⟨wo, rfl⟩ : ∃ wo : World, wo = wr := ⟨_, rfl⟩
    by_cases hlt : y < n
    · have hi2 : (y : Int) < (n : Int) := by omega
      go_wp2
      go_loopw [7] (fun b wr' => ∃ x : Nat, x ≤ n ∧ b = .int .i64 x ∧ Hid (NaRel w wr' g n L P (gridTo n y x))) (fun b _ => n - (intOf b).toNat)
      case atStart => exact ⟨0, Nat.zero_le _, rfl, by rw [gridTo_zero]; exact hr⟩
      case round =>
        obtain ⟨x, hxn, rfl, hq⟩ := hrel
        by_cases hlx : x < n
        · obtain ⟨X, a, b, bit, q, u, eX, ea, eb, ha, hb, f1, ⟨f2, f2'⟩, f3, ⟨hc, hf⟩, w2, w3, e2, hc2, hf2, e3, hrel'⟩ := na_step HN.out HG.out HP.out hlt hlx EG.out hq.out
          obtain ⟨blk, off, rfl, hbl, hcL⟩ := H.out y (by have := HN.out; omega)
          obtain ⟨blk', off', rfl, hbl', hcP⟩ := H'.out y (by have := HPL.out; omega)
          obtain ⟨blk2, off2, e2b, hbl2, hcQ⟩ := H'.out x (by have := HPL.out; omega)
          obtain ⟨rfl, rfl⟩ : blk' = blk2 ∧ off' = off2 := by injection e2b with e; injection e with e1 e2; exact ⟨e1, e2⟩
          rw [eX] at hcL
          rw [ea] at hcP
          rw [eb] at hcQ
          have hLw : wr.cell? ⟨blk, off + y, none⟩ = some (.int .i64 X) := (hq.out.2.cell (p := ⟨blk, off + y, none⟩) hbl).trans hcL
          have hPw : wr.cell? ⟨blk', off' + y, none⟩ = some (.int .i64 a) := (hq.out.2.cell (p := ⟨blk', off' + y, none⟩) hbl').trans hcP
          have hQw : wr.cell? ⟨blk', off' + x, none⟩ = some (.int .i64 b) := (hq.out.2.cell (p := ⟨blk', off' + x, none⟩) hbl').trans hcQ
          have hi1 : (0 : Int) ≤ (y : Int) ∧ (y : Int) < (n : Int) := by omega
          have hi3 : (0 : Int) ≤ (x : Int) ∧ (x : Int) < (n : Int) := by omega
          have hi4 : (0 : Int) ≤ (a : Int) ∧ (a : Int) < (n : Int) := by omega
          have E2 := Lib.hid e2
          have E3 := Lib.hid e3
          clear hq e2 e3 hbl hbl' hbl2 hcL hcP hcQ e2b eX ea eb
          go_wp2
          go_still_tail 26, (by kernel_rfl)
          change wpList _ _ _ _ _ wr.drew
          rw [← E2.out]
          go_wp2
          rw [← E3.out]
          clear f1 f2 f3 f2' hc hf hc2 hf2 hLw hPw hQw
          go_roundw
          case rel => exact ⟨x + 1, by omega, by go_num, Lib.hid hrel'.out⟩
          case measure => simp [intOf]; omega
        · have hxe : x = n := by omega
          subst hxe
          go_wp2
          go_roundw
          case rel => exact ⟨y + 1, by omega, by go_num, Lib.hid (by have h0 := hq.out; rw [gridTo_end] at h0; exact h0)⟩
          case measure => simp [intOf]; omega
    · have hye : y = n := by omega
      subst hye
      go_wp2
      go_ret
      exact ⟨_, rfl, hr.out.1, hr.out.2⟩

end Go.Proofs.YtamabhdbcmjbjaaDoor

/- When names make one graph another one: by codes, and by trying. Plain mathematics, no condition. -/







namespace Go.Proofs.YtamabhdbcmjbjaaDoor
open Go Go.RowKit
set_option linter.unusedVariables false
set_option maxRecDepth 100000

/-- The graph with its nodes named. -/
def namedL (L : List Int) (P : List Nat) : List Int := ints (mrun L L.length (nm (ints P)) (grid L.length L.length))
theorem nm_ints (P : List Nat) (v : Nat) : nm (ints P) v = at_ P v := by
  unfold nm at_
  rw [ints_get]
  rfl
theorem names_is {n : Nat} {P : List Nat} (h : Names n n P) : IsNames (ints P) n := by
  have hnat : natOf (ints P) = P := by
    unfold natOf ints
    rw [List.map_map]
    exact (List.map_congr_left (fun x _ => by simp)).trans (List.map_id P)
  refine ⟨by rw [ints_length]; exact h.1, fun k hk => ?_, by rw [hnat]; exact h.2.1⟩
  rw [ints_length] at hk
  unfold InN
  rw [ints_at hk]
  have := at_lt h.2.2 hk
  omega
theorem at_inj {n : Nat} {P : List Nat} (h : Names n n P) {a b : Nat} (ha : a < n) (hb : b < n) (e : at_ P a = at_ P b) : a = b := by
  refine Classical.byContradiction fun hne => ?_
  have := nm_ne (names_is h) ha hb hne
  rw [nm_ints, nm_ints] at this
  exact this e
theorem at_surj {n : Nat} {P : List Nat} (h : Names n n P) {j : Nat} (hj : j < n) : ∃ a, a < n ∧ at_ P a = j := by
  have h1 : seenOf P = 2 ^ n - 1 := (names_iff P n h.1 h.2.2).2 h.2.1
  have h2 := (seenOf_full P n h.2.2).1 h1 j hj
  obtain ⟨a, ha, e⟩ := List.mem_iff_getElem.1 h2
  refine ⟨a, by rw [← h.1]; exact ha, ?_⟩
  unfold at_
  rw [List.getElem?_eq_getElem ha]
  exact e
theorem bt_ints (g : List Nat) (i j : Nat) : bt (ints g) i j = 1 ↔ (g[i]?.getD 0).testBit j = true := by
  unfold bt ent
  rw [ints_get, Int.toNat_natCast, Nat.testBit_eq_decide_div_mod_eq, decide_eq_true_eq]
theorem named_bt {L : List Int} {P : List Nat} (h : Names L.length L.length P) (i j : Nat) : bt (namedL L P) i j = 1 ↔ ∃ a b, a < L.length ∧ b < L.length ∧ bt L a b = 1 ∧ i = at_ P a ∧ j = at_ P b := by
  unfold namedL
  rw [bt_ints, mrun_bit L L.length (nm (ints P)) (fun v hv => (nm_int (names_is h) hv).2) _ (fun e he => by obtain ⟨a, b⟩ := e; exact ((grid_all _ _ _).1 he).1)]
  constructor
  · rintro ⟨⟨a, b⟩, he, h1, h2, h3⟩
    obtain ⟨ha, hb⟩ := (grid_all _ _ _).1 he
    exact ⟨a, b, ha, hb, h1, by rw [← nm_ints]; exact h2, by rw [← nm_ints]; exact h3⟩
  · rintro ⟨a, b, ha, hb, h1, h2, h3⟩
    exact ⟨(a, b), (grid_all _ _ _).2 ⟨ha, hb⟩, h1, by rw [nm_ints]; exact h2, by rw [nm_ints]; exact h3⟩
theorem bt_eq {L M : List Int} {a b c d : Nat} (h : bt L a b = 1 ↔ bt M c d = 1) : bt L a b = bt M c d := by
  have h1 := bt_le L a b
  have h2 := bt_le M c d
  by_cases h3 : bt L a b = 1
  · rw [h3, h.1 h3]
  · have h4 : ¬ bt M c d = 1 := fun e => h3 (h.2 e)
    omega
theorem named_at {L : List Int} {P : List Nat} (h : Names L.length L.length P) {a b : Nat} (ha : a < L.length) (hb : b < L.length) : bt (namedL L P) (at_ P a) (at_ P b) = bt L a b := by
  refine bt_eq ?_
  rw [named_bt h]
  constructor
  · rintro ⟨c, d, hc, hd, h1, h2, h3⟩
    rw [at_inj h ha hc h2, at_inj h hb hd h3]
    exact h1
  · intro h1
    exact ⟨a, b, ha, hb, h1, rfl, rfl⟩
theorem bt_sym {L : List Int} (hg : IsGraph L) {a b : Nat} (ha : a < L.length) (hb : b < L.length) : bt L a b = bt L b a := by
  rcases Nat.lt_trichotomy a b with h | h | h
  · exact ((hg.2.2 b hb).2.2 a h).symm
  · rw [h]
  · exact (hg.2.2 a ha).2.2 b h
theorem namedL_length (L : List Int) (P : List Nat) : (namedL L P).length = L.length := by unfold namedL; rw [ints_length, mrun_length]
theorem named_graph {L : List Int} (hg : IsGraph L) {P : List Nat} (h : Names L.length L.length P) : IsGraph (namedL L P) := by
  have hl := namedL_length L P
  refine ⟨by rw [hl]; exact hg.1, by rw [hl]; exact hg.2.1, fun v hv => ?_⟩
  rw [hl] at hv
  refine ⟨?_, ?_, fun w hw => ?_⟩
  · unfold InR
    rw [hl]
    unfold namedL
    rw [ints_get]
    refine ⟨by omega, ?_⟩
    have h1 : (mrun L L.length (nm (ints P)) (grid L.length L.length))[v]?.getD 0 < 2 ^ L.length := by
      refine Nat.lt_pow_two_of_testBit _ fun j hj => ?_
      cases e : ((mrun L L.length (nm (ints P)) (grid L.length L.length))[v]?.getD 0).testBit j with
      | false => rfl
      | true =>
        have h2 := (named_bt h v j).1 ((bt_ints _ _ _).2 e)
        obtain ⟨a, b, ha, hb, _, _, h3⟩ := h2
        have := at_lt h.2.2 (show b < P.length by rw [h.1]; exact hb)
        omega
    omega
  · have h1 := bt_le (namedL L P) v v
    refine Nat.le_antisymm ?_ (Nat.zero_le _)
    refine Nat.le_of_not_lt fun h2 => ?_
    have h3 : bt (namedL L P) v v = 1 := by omega
    obtain ⟨a, b, ha, hb, h4, h5, h6⟩ := (named_bt h v v).1 h3
    have h7 := at_inj h ha hb (h5.symm.trans h6)
    subst h7
    have := (hg.2.2 a ha).2.1
    omega
  · refine bt_eq ?_
    rw [named_bt h, named_bt h]
    constructor
    · rintro ⟨a, b, ha, hb, h1, h2, h3⟩
      exact ⟨b, a, hb, ha, (bt_sym hg hb ha).trans h1, h3, h2⟩
    · rintro ⟨a, b, ha, hb, h1, h2, h3⟩
      exact ⟨b, a, hb, ha, (bt_sym hg hb ha).trans h1, h3, h2⟩

/-! ### codes -/
theorem crun_bit (L : List Int) (ps : List (Nat × Nat)) (k : Nat) (hk : k < ps.length) : (crun L ps).1.testBit k = true ↔ bt L (ps[k]).1 (ps[k]).2 = 1 := by
  induction ps using snoc_ind with
  | h0 => simp at hk
  | h1 l x ih =>
    rw [crun_snoc]
    unfold cstep
    dsimp only
    rw [Nat.testBit_or, crun_at, Bool.or_eq_true, bit_test _ _ _ (bt_le _ _ _)]
    simp only [Bool.and_eq_true, decide_eq_true_eq]
    rw [List.length_append, List.length_singleton] at hk
    by_cases h : k < l.length
    · rw [List.getElem_append_left h, ih h]
      constructor
      · rintro (h1 | ⟨_, h1⟩)
        · exact h1
        · omega
      · exact .inl
    · have hkl : k = l.length := by omega
      subst hkl
      rw [List.getElem_append_right (Nat.le_refl _)]
      have h1 := crun_lt L l
      have h2 : (crun L l).1.testBit l.length = false := Nat.testBit_lt_two_pow h1
      rw [h2]
      simp
theorem graph_ext {A B : List Int} (hA : IsGraph A) (hB : IsGraph B) (hl : A.length = B.length) (h : ∀ i j, i < A.length → j < A.length → bt A i j = bt B i j) : A = B := by
  refine List.ext_getElem hl fun i h1 h2 => ?_
  have a1 := (hA.2.2 i h1).1
  have b1 := (hB.2.2 i h2).1
  have e : ent A i = ent B i := by
    refine Nat.eq_of_testBit_eq fun j => ?_
    by_cases hj : j < A.length
    · have h3 := h i j h1 hj
      unfold bt at h3
      rw [Nat.testBit_eq_decide_div_mod_eq, Nat.testBit_eq_decide_div_mod_eq, h3]
    · have h4 := ent_lt a1
      have h5 := ent_lt b1
      rw [← hl] at h5
      rw [Nat.testBit_lt_two_pow (Nat.lt_of_lt_of_le h4 (pow_le _ _ (by omega))), Nat.testBit_lt_two_pow (Nat.lt_of_lt_of_le h5 (pow_le _ _ (by omega)))]
  have h6 := ent_int a1
  have h7 := ent_int b1
  rw [List.getElem?_eq_getElem h1] at h6
  rw [List.getElem?_eq_getElem h2] at h7
  simp only [Option.getD_some] at h6 h7
  rw [h6, h7, e]
theorem code_inj {A B : List Int} (hA : IsGraph A) (hB : IsGraph B) (hl : A.length = B.length) (h : codeOf A = codeOf B) : A = B := by
  have hp : ∀ a b, a < b → b < A.length → bt A a b = bt B a b := fun a b hab hb => by
    obtain ⟨k, hk, e⟩ := List.mem_iff_getElem.1 ((rows_all A.length a b).2 ⟨hab, hb⟩)
    have h1 := crun_bit A (rows A.length) k hk
    have h2 := crun_bit B (rows A.length) k hk
    rw [e] at h1 h2
    refine bt_eq (h1.symm.trans (Iff.trans ?_ h2))
    unfold codeOf at h
    rw [← hl] at h
    rw [h]
  refine graph_ext hA hB hl fun i j hi hj => ?_
  rcases Nat.lt_trichotomy i j with h1 | h1 | h1
  · exact hp i j h1 hj
  · subst h1
    rw [(hA.2.2 i hi).2.1, (hB.2.2 i (by omega)).2.1]
  · rw [bt_sym hA hi hj, bt_sym hB (by omega) (by omega)]
    exact hp j i h1 hi
theorem take_at {P : List Nat} {i v : Nat} (h : v < i) : at_ (P.take i) v = at_ P v := by
  unfold at_
  rw [List.getElem?_take_of_lt h]
/-- **By codes and by trying.** -/
theorem ok_iff {L M : List Int} (hL : IsGraph L) (hM : IsGraph M) (hl : L.length = M.length) {P : List Nat} (h : Names L.length L.length P) : okFrom (fitB L M) 0 P = true ↔ codeOf (namedL L P) = codeOf M := by
  rw [okFrom_iff]
  constructor
  · intro hok
    have h1 : ∀ v i, v < i → i < L.length → bt L v i = bt M (at_ P v) (at_ P i) := fun v i hvi hi => by
      have h2 := hok i (Nat.zero_le _) (by rw [h.1]; exact hi)
      unfold fitB at h2
      have hlen : (P.take (i + 1)).length - 1 = i := by rw [List.length_take, h.1]; omega
      rw [hlen] at h2
      have h3 := List.all_eq_true.1 h2 v (List.mem_range.2 hvi)
      unfold okAt at h3
      rw [hlen, take_at (by omega), take_at (by omega)] at h3
      simpa using h3
    have h2 : namedL L P = M := by
      refine graph_ext (named_graph hL h) hM (by rw [namedL_length, hl]) fun i j hi hj => ?_
      rw [namedL_length] at hi hj
      obtain ⟨a, ha, rfl⟩ := at_surj h hi
      obtain ⟨b, hb, rfl⟩ := at_surj h hj
      rw [named_at h ha hb]
      rcases Nat.lt_trichotomy a b with h3 | h3 | h3
      · exact h1 a b h3 hb
      · subst h3
        rw [(hL.2.2 a ha).2.1, (hM.2.2 _ (by omega)).2.1]
      · rw [bt_sym hL ha hb, bt_sym hM (by omega) (by omega)]
        exact h1 b a h3 ha
    rw [h2]
  · intro hc i _ hi
    rw [h.1] at hi
    have h2 := code_inj (named_graph hL h) hM (by rw [namedL_length, hl]) hc
    unfold fitB
    have hlen : (P.take (i + 1)).length - 1 = i := by rw [List.length_take, h.1]; omega
    rw [hlen, List.all_eq_true]
    intro v hv
    have hv := List.mem_range.1 hv
    unfold okAt
    rw [hlen, take_at (by omega), take_at (by omega), ← h2, named_at h (by omega) hi]
    simp
end Go.Proofs.YtamabhdbcmjbjaaDoor

/- Names that fit, by codes. Plain mathematics, no condition. -/



namespace Go.Proofs.YtamabhdbcmjbjaaDoor
open Go Go.RowKit
set_option linter.unusedVariables false
set_option maxRecDepth 100000

theorem empty_list (w : World) : Row (w.alloc (.cells #[] 3)) w.heap.size (.slice (some ⟨w.heap.size, 0, none⟩) 0 0) [] :=
  World.ownsRow_lit (base := w.heap.size) (e := 3) (size := 1) w #[] 0 (Nat.le_refl _) (by unfold maxLen; omega) rfl
def okC (L M : List Int) (P : List Nat) : Bool := codeOf (namedL L P) == codeOf M
theorem likeL_codes {L M : List Int} (hL : IsGraph L) (hM : IsGraph M) (hl : L.length = M.length) : likeL L M = (permsTo L.length L.length).filter (okC L M) := by
  rw [likeL_eq L M hL.2.1]
  refine List.filter_congr fun P hP => ?_
  have h := ok_iff hL hM hl (perms_names _ _ P hP)
  unfold okC
  rw [Bool.eq_iff_iff, h]
  simp
theorem filter_first {p : List Nat → Bool} {R : List (List Nat)} {k : Nat} (hk : k < R.length) (h0 : ∀ j, j < k → p (R[j]?.getD []) = false) (h1 : p (R[k]?.getD []) = true) : ∃ t, R.filter p = (R[k]?.getD []) :: t := by
  induction R generalizing k with
  | nil => simp at hk
  | cons x R ih =>
    cases k with
    | zero =>
      have hx : p x = true := by simpa using h1
      exact ⟨R.filter p, by simp [hx]⟩
    | succ k =>
      have hx : p x = false := by simpa using h0 0 (by omega)
      obtain ⟨t, ht⟩ := ih (k := k) (by simpa using hk) (fun j hj => by simpa using h0 (j + 1) (by omega)) (by simpa using h1)
      exact ⟨t, by simpa [List.filter_cons, hx] using ht⟩
theorem filter_none {p : List Nat → Bool} {R : List (List Nat)} (h0 : ∀ j, j < R.length → p (R[j]?.getD []) = false) : R.filter p = [] := by
  rw [List.filter_eq_nil_iff]
  intro a ha
  obtain ⟨j, hj, rfl⟩ := List.mem_iff_getElem.1 ha
  have := h0 j hj
  simp [hj] at this
  simp [this]

end Go.Proofs.YtamabhdbcmjbjaaDoor

/- Names one behind another, and back; alike graphs have one least code and as many edges. Plain mathematics, no condition. -/


namespace Go.Proofs.YtamabhdbcmjbjaaDoor
open Go Go.RowKit
set_option linter.unusedVariables false
set_option maxRecDepth 100000

theorem range_perms (n : Nat) : ∀ k, k ≤ n → List.range k ∈ permsTo n k
  | 0, _ => by simp [permsTo, extK]
  | k + 1, h => by
    rw [permsTo_succ]
    refine List.mem_flatMap.2 ⟨List.range k, range_perms n k (by omega), ?_⟩
    unfold ext
    exact List.mem_map.2 ⟨k, mem_left.2 ⟨by omega, by simp⟩, List.range_succ.symm⟩
theorem at_range {n i v : Nat} (hv : v < i) (hi : i ≤ n) : at_ ((List.range n).take i) v = v := by
  rw [take_at hv]
  unfold at_
  simp [show v < n by omega]
theorem id_okC {L : List Int} (hL : IsGraph L) : okC L L (List.range L.length) = true := by
  have hp := range_perms L.length L.length (Nat.le_refl _)
  have hn := perms_names _ _ _ hp
  unfold okC
  rw [beq_iff_eq]
  refine (ok_iff hL hL rfl hn).1 ?_
  rw [okFrom_iff]
  intro i _ hi
  rw [List.length_range] at hi
  have hl : ((List.range L.length).take (i + 1)).length = i + 1 := by rw [List.length_take, List.length_range]; omega
  unfold fitB
  rw [List.all_eq_true]
  intro v hv
  rw [List.mem_range, hl] at hv
  unfold okAt
  rw [hl, at_range (by omega) (by omega), at_range (by omega) (by omega)]
  simp

theorem perms_all (n : Nat) : ∀ (k : Nat) (P : List Nat), Names n k P → P ∈ permsTo n k
  | 0, P, h => by
    have e : P = [] := List.eq_nil_of_length_eq_zero h.1
    subst e
    simp [permsTo, extK]
  | k + 1, P, h => by
    have hk : k < P.length := by rw [h.1]; omega
    have e : P = P.take k ++ [P[k]] := by rw [← List.take_succ_eq_append_getElem hk, ← h.1, List.take_length]
    have hnd := h.2.1
    rw [e, List.nodup_append] at hnd
    have ht : Names n k (P.take k) := ⟨by rw [List.length_take, h.1]; omega, hnd.1, fun x hx => h.2.2 x (List.mem_of_mem_take hx)⟩
    rw [permsTo_succ]
    refine List.mem_flatMap.2 ⟨P.take k, perms_all n k _ ht, ?_⟩
    unfold ext
    refine List.mem_map.2 ⟨P[k], mem_left.2 ⟨h.2.2 _ (List.getElem_mem _), fun hm => hnd.2.2 _ hm _ (by simp) rfl⟩, e.symm⟩

theorem map_range_at (n : Nat) (f : Nat → Nat) {v : Nat} (hv : v < n) : at_ ((List.range n).map f) v = f v := by
  unfold at_
  simp [hv]
theorem map_range_names {n : Nat} {f : Nat → Nat} (h : ∀ v, v < n → f v < n) (hi : ∀ a b, a < n → b < n → f a = f b → a = b) : Names n n ((List.range n).map f) := by
  refine ⟨by simp, ?_, fun x hx => ?_⟩
  · unfold List.Nodup
    rw [List.pairwise_map]
    exact List.Pairwise.imp_of_mem (fun {a b} ha hb hne he => hne (hi a b (List.mem_range.1 ha) (List.mem_range.1 hb) he)) List.nodup_range
  · obtain ⟨v, hv, rfl⟩ := List.mem_map.1 hx
    exact h v (List.mem_range.1 hv)
theorem at_name {n : Nat} {P : List Nat} (h : Names n n P) {v : Nat} (hv : v < n) : at_ P v < n := at_lt h.2.2 (by rw [h.1]; exact hv)

def compP (n : Nat) (P Q : List Nat) : List Nat := (List.range n).map fun v => at_ Q (at_ P v)
theorem comp_names {n : Nat} {P Q : List Nat} (hP : Names n n P) (hQ : Names n n Q) : Names n n (compP n P Q) :=
  map_range_names (fun v hv => at_name hQ (at_name hP hv)) (fun a b ha hb e => at_inj hP ha hb (at_inj hQ (at_name hP ha) (at_name hP hb) e))
def invF (n : Nat) (P : List Nat) (j : Nat) : Nat := ((List.range n).find? fun a => at_ P a == j).getD 0
theorem invF_spec {n : Nat} {P : List Nat} (hP : Names n n P) {j : Nat} (hj : j < n) : invF n P j < n ∧ at_ P (invF n P j) = j := by
  obtain ⟨a, ha, e⟩ := at_surj hP hj
  unfold invF
  cases h : (List.range n).find? fun a => at_ P a == j with
  | none =>
    have h1 := List.find?_eq_none.1 h a (List.mem_range.2 ha)
    simp [e] at h1
  | some b =>
    have h1 := List.find?_some h
    have h2 := List.mem_of_find?_eq_some h
    exact ⟨List.mem_range.1 h2, by simpa using h1⟩
def invP (n : Nat) (P : List Nat) : List Nat := (List.range n).map (invF n P)
theorem inv_names {n : Nat} {P : List Nat} (hP : Names n n P) : Names n n (invP n P) :=
  map_range_names (fun v hv => (invF_spec hP hv).1) (fun a b ha hb e => by rw [← (invF_spec hP ha).2, ← (invF_spec hP hb).2, e])

theorem named_comp {L : List Int} (hL : IsGraph L) {P Q : List Nat} (hP : Names L.length L.length P) (hQ : Names L.length L.length Q) : namedL (namedL L P) Q = namedL L (compP L.length P Q) := by
  have hl := namedL_length L P
  have hC := comp_names hP hQ
  have hQ' : Names (namedL L P).length (namedL L P).length Q := by rw [hl]; exact hQ
  refine graph_ext (named_graph (named_graph hL hP) hQ') (named_graph hL hC) (by rw [namedL_length, namedL_length, namedL_length]) fun i j hi hj => ?_
  rw [namedL_length, hl] at hi hj
  obtain ⟨a, ha, ea⟩ := at_surj hC hi
  obtain ⟨b, hb, eb⟩ := at_surj hC hj
  have e1 : i = at_ Q (at_ P a) := by rw [← ea]; unfold compP; rw [map_range_at _ _ ha]
  have e2 : j = at_ Q (at_ P b) := by rw [← eb]; unfold compP; rw [map_range_at _ _ hb]
  have h1 : bt (namedL L (compP L.length P Q)) i j = bt L a b := by rw [← ea, ← eb]; exact named_at hC ha hb
  rw [h1, e1, e2, named_at hQ' (by rw [hl]; exact at_name hP ha) (by rw [hl]; exact at_name hP hb), named_at hP ha hb]
theorem named_inv {L : List Int} (hL : IsGraph L) {P : List Nat} (hP : Names L.length L.length P) : namedL (namedL L P) (invP L.length P) = L := by
  have hl := namedL_length L P
  have hI := inv_names hP
  have hI' : Names (namedL L P).length (namedL L P).length (invP L.length P) := by rw [hl]; exact hI
  have hat : ∀ i, i < L.length → at_ (invP L.length P) (at_ P i) = i := fun i hi => by
    unfold invP
    rw [map_range_at _ _ (at_name hP hi)]
    have h1 := invF_spec hP (at_name hP hi)
    exact at_inj hP h1.1 hi h1.2
  refine graph_ext (named_graph (named_graph hL hP) hI') hL (by rw [namedL_length, hl]) fun i j hi hj => ?_
  rw [namedL_length, hl] at hi hj
  have h1 := named_at hI' (L := namedL L P) (a := at_ P i) (b := at_ P j) (by rw [hl]; exact at_name hP hi) (by rw [hl]; exact at_name hP hj)
  rw [hat i hi, hat j hj] at h1
  rw [h1, named_at hP hi hj]
theorem named_id {L : List Int} (hL : IsGraph L) : namedL L (List.range L.length) = L := by
  have h := id_okC hL
  unfold okC at h
  rw [beq_iff_eq] at h
  exact code_inj (named_graph hL (perms_names _ _ _ (range_perms _ _ (Nat.le_refl _)))) hL (namedL_length _ _) h

/-! ### edges -/
theorem count_le {α : Type} [DecidableEq α] (p : α → Bool) : ∀ (l1 l2 : List α), l1.Nodup → (∀ x ∈ l1, x ∈ l2) → (l1.filter p).length ≤ (l2.filter p).length
  | [], _, _, _ => by simp
  | x :: l1, l2, hn, hs => by
    have hx := hs x List.mem_cons_self
    have hn' := List.nodup_cons.1 hn
    have ih := count_le p l1 (l2.erase x) hn'.2 (fun y hy => (List.mem_erase_of_ne (fun e => hn'.1 (by rw [← e]; exact hy))).2 (hs y (List.mem_cons_of_mem _ hy)))
    have hp := ((List.perm_cons_erase hx).filter p).length_eq
    rw [hp, List.filter_cons, List.filter_cons]
    by_cases h : p x = true
    · rw [if_pos h, if_pos h]; simp; omega
    · rw [if_neg h, if_neg h]; exact ih
theorem rows_nodup : ∀ n : Fin 7, (rows n.val).Nodup := by decide
theorem edges_in {L : List Int} (h6 : L.length ≤ 6) : edgesN L = (edgesIn L (rows L.length)).length := pc_crun L _ (rows_length L.length h6)
def pairUp (P : List Nat) (x : Nat × Nat) : Nat × Nat := (min (at_ P x.1) (at_ P x.2), max (at_ P x.1) (at_ P x.2))
set_option maxHeartbeats 2000000 in
theorem edges_le {L : List Int} (hL : IsGraph L) {P : List Nat} (hP : Names L.length L.length P) : edgesN L ≤ edgesN (namedL L P) := by
  have h6 := hL.2.1
  have hl := namedL_length L P
  have hN := named_graph hL hP
  rw [edges_in h6, edges_in (L := namedL L P) (by rw [hl]; exact h6), hl]
  unfold edgesIn
  have hmem : ∀ x ∈ rows L.length, x.1 < x.2 ∧ x.2 < L.length := fun x hx => (rows_all L.length x.1 x.2).1 hx
  have hnd : ((rows L.length).map (pairUp P)).Nodup := by
    unfold List.Nodup
    rw [List.pairwise_map]
    refine List.Pairwise.imp_of_mem (fun {x y} hx hy hne he => hne ?_) (rows_nodup ⟨L.length, by omega⟩)
    obtain ⟨x1, x2⟩ := hmem x hx
    obtain ⟨y1, y2⟩ := hmem y hy
    unfold pairUp at he
    injection he with e1 e2
    have n1 : at_ P x.1 ≠ at_ P x.2 := fun e => by have := at_inj hP (by omega) (by omega) e; omega
    have n2 : at_ P y.1 ≠ at_ P y.2 := fun e => by have := at_inj hP (by omega) (by omega) e; omega
    have h3 : (at_ P x.1 = at_ P y.1 ∧ at_ P x.2 = at_ P y.2) ∨ (at_ P x.1 = at_ P y.2 ∧ at_ P x.2 = at_ P y.1) := by omega
    rcases h3 with ⟨h3, h4⟩ | ⟨h3, h4⟩
    · exact Prod.ext (at_inj hP (by omega) (by omega) h3) (at_inj hP (by omega) (by omega) h4)
    · have := at_inj hP (by omega) (by omega) h3
      have := at_inj hP (by omega) (by omega) h4
      omega
  have hsub : ∀ x ∈ (rows L.length).map (pairUp P), x ∈ rows L.length := fun x hx => by
    obtain ⟨y, hy, rfl⟩ := List.mem_map.1 hx
    obtain ⟨y1, y2⟩ := hmem y hy
    have n2 : at_ P y.1 ≠ at_ P y.2 := fun e => by have := at_inj hP (by omega) (by omega) e; omega
    have m1 := at_name hP (show y.1 < L.length by omega)
    have m2 := at_name hP (show y.2 < L.length by omega)
    refine (rows_all L.length _ _).2 ⟨?_, ?_⟩
    · show min (at_ P y.1) (at_ P y.2) < max (at_ P y.1) (at_ P y.2); omega
    · show max (at_ P y.1) (at_ P y.2) < L.length; omega
  refine Nat.le_trans (Nat.le_of_eq ?_) (count_le (fun p => bt (namedL L P) p.1 p.2 == 1) _ _ hnd hsub)
  rw [List.filter_map, List.length_map]
  congr 1
  refine List.filter_congr fun x hx => ?_
  obtain ⟨x1, x2⟩ := hmem x hx
  have m1 := at_name hP (show x.1 < L.length by omega)
  have m2 := at_name hP (show x.2 < L.length by omega)
  have h := named_at hP (show x.1 < L.length by omega) (show x.2 < L.length by omega)
  show (bt L x.1 x.2 == 1) = (bt (namedL L P) (min (at_ P x.1) (at_ P x.2)) (max (at_ P x.1) (at_ P x.2)) == 1)
  rcases Nat.le_total (at_ P x.1) (at_ P x.2) with h1 | h1
  · rw [Nat.min_eq_left h1, Nat.max_eq_right h1, h]
  · rw [Nat.min_eq_right h1, Nat.max_eq_left h1, bt_sym hN (by rw [hl]; exact m2) (by rw [hl]; exact m1), h]
theorem edges_named {L : List Int} (hL : IsGraph L) {P : List Nat} (hP : Names L.length L.length P) : edgesN (namedL L P) = edgesN L := by
  have hl := namedL_length L P
  have h1 := edges_le hL hP
  have h2 := edges_le (named_graph hL hP) (P := invP L.length P) (by rw [hl]; exact inv_names hP)
  rw [named_inv hL hP] at h2
  omega

/-! ### the least code -/
def minTo (L : List Int) (R : List (List Nat)) : Nat := R.foldl (fun b P => min b (codeOf (namedL L P))) (codeOf L)
theorem minTo_nil (L : List Int) : minTo L [] = codeOf L := rfl
theorem minTo_snoc (L : List Int) (R : List (List Nat)) (P : List Nat) : minTo L (R ++ [P]) = min (minTo L R) (codeOf (namedL L P)) := by simp [minTo]
theorem minTo_le (L : List Int) (R : List (List Nat)) : ∀ P ∈ R, minTo L R ≤ codeOf (namedL L P) := by
  induction R using snoc_ind with
  | h0 => intro P hP; cases hP
  | h1 l x ih =>
    intro P hP
    rw [minTo_snoc]
    rcases List.mem_append.1 hP with h | h
    · exact Nat.le_trans (Nat.min_le_left _ _) (ih P h)
    · rw [List.mem_singleton.1 h]; exact Nat.min_le_right _ _
theorem minTo_is (L : List Int) (R : List (List Nat)) : minTo L R = codeOf L ∨ ∃ P ∈ R, minTo L R = codeOf (namedL L P) := by
  induction R using snoc_ind with
  | h0 => exact .inl rfl
  | h1 l x ih =>
    rw [minTo_snoc]
    rcases Nat.le_total (minTo L l) (codeOf (namedL L x)) with h | h
    · rw [Nat.min_eq_left h]
      rcases ih with e | ⟨P, hP, e⟩
      · exact .inl e
      · exact .inr ⟨P, by simp [hP], e⟩
    · rw [Nat.min_eq_right h]
      exact .inr ⟨x, by simp, rfl⟩
def leastL (L : List Int) : Nat := minTo L (permsTo L.length L.length)
theorem least_le {L : List Int} {P : List Nat} (hP : Names L.length L.length P) : leastL L ≤ codeOf (namedL L P) := minTo_le L _ P (perms_all _ _ P hP)
theorem least_is {L : List Int} (hL : IsGraph L) : ∃ P, Names L.length L.length P ∧ leastL L = codeOf (namedL L P) := by
  rcases minTo_is L (permsTo L.length L.length) with e | ⟨P, hP, e⟩
  · exact ⟨_, perms_names _ _ _ (range_perms _ _ (Nat.le_refl _)), by rw [named_id hL]; exact e⟩
  · exact ⟨P, perms_names _ _ _ hP, e⟩
theorem least_named {L : List Int} (hL : IsGraph L) {P : List Nat} (hP : Names L.length L.length P) : leastL (namedL L P) = leastL L := by
  have hl := namedL_length L P
  have hN := named_graph hL hP
  refine Nat.le_antisymm ?_ ?_
  · obtain ⟨R, hR, e⟩ := least_is hL
    have hI := inv_names hP
    have hC := comp_names hI hR
    have h1 := named_comp (L := namedL L P) hN (P := invP L.length P) (Q := R) (by rw [hl]; exact hI) (by rw [hl]; exact hR)
    rw [named_inv hL hP, hl] at h1
    rw [e, h1]
    exact least_le (by rw [hl]; exact hC)
  · obtain ⟨R, hR, e⟩ := least_is hN
    rw [hl] at hR
    rw [e, named_comp hL hP hR]
    exact least_le (comp_names hP hR)
/-- **Alike by names, and by least codes.** -/
theorem alike_iff {L M : List Int} (hL : IsGraph L) (hM : IsGraph M) (hl : L.length = M.length) : likeL L M ≠ [] ↔ (edgesN L = edgesN M ∧ leastL L = leastL M) := by
  rw [likeL_codes hL hM hl]
  constructor
  · intro h
    obtain ⟨P, hP⟩ := List.exists_mem_of_ne_nil _ h
    obtain ⟨h1, h2⟩ := List.mem_filter.1 hP
    have hn := perms_names _ _ _ h1
    unfold okC at h2
    rw [beq_iff_eq] at h2
    have e := code_inj (named_graph hL hn) hM (by rw [namedL_length, hl]) h2
    rw [← e]
    exact ⟨(edges_named hL hn).symm, (least_named hL hn).symm⟩
  · rintro ⟨_, h⟩
    obtain ⟨P, hP, e1⟩ := least_is hL
    obtain ⟨Q, hQ, e2⟩ := least_is hM
    have e := code_inj (named_graph hL hP) (named_graph hM hQ) (by rw [namedL_length, namedL_length, hl]) (by rw [← e1, ← e2, h])
    have hQ' : Names L.length L.length Q := by rw [hl]; exact hQ
    have h1 := named_inv hM hQ
    rw [← e, ← hl, named_comp hL hP (inv_names hQ')] at h1
    refine List.ne_nil_of_mem (a := compP L.length P (invP L.length Q)) (List.mem_filter.2 ⟨perms_all _ _ _ (comp_names hP (inv_names hQ')), ?_⟩)
    unfold okC
    rw [h1, beq_self_eq_true]

end Go.Proofs.YtamabhdbcmjbjaaDoor

/- The nodes of a set below a bound, in order. Plain mathematics, no condition. -/

namespace Go.Proofs.YtamabhdbcmjbjaaDoor
open Go Go.RowKit
set_option linter.unusedVariables false
set_option maxRecDepth 100000

def upN (s k : Nat) : List Nat := (List.range k).filter fun i => s / 2 ^ i % 2 == 1
theorem upN_zero (s : Nat) : upN s 0 = [] := rfl
theorem upN_succ (s k : Nat) : upN s (k + 1) = upN s k ++ (if s / 2 ^ k % 2 = 1 then [k] else []) := by
  unfold upN
  rw [List.range_succ, List.filter_append]
  by_cases h : s / 2 ^ k % 2 = 1 <;> simp [h]
theorem upN_length (s k : Nat) : (upN s k).length ≤ k := by
  have := List.length_filter_le (fun i => s / 2 ^ i % 2 == 1) (List.range k)
  simpa [upN] using this
theorem upN_all : ∀ (n : Fin 7) (s : Fin 64), s.val < 2 ^ n.val → upN s.val n.val = nodesL s.val := by decide +kernel
theorem nodes_lt {s n : Nat} (hs : s < 2 ^ n) : ∀ x ∈ nodesL s, x < n := fun x hx => bit_lt hs (nodes_mem.1 hx).2
end Go.Proofs.YtamabhdbcmjbjaaDoor

/- A list of numbers in order. Plain mathematics, no condition. -/

namespace Go.Proofs.YtamabhdbcmjbjaaDoor
open Go Go.RowKit
set_option linter.unusedVariables false
set_option maxRecDepth 100000

/-- A list in order. -/
def sortL (xs : List Int) : List Int := xs.mergeSort (fun x y => decide (x ≤ y))
theorem sortL_length (xs : List Int) : (sortL xs).length = xs.length := by unfold sortL; exact List.length_mergeSort xs
theorem sortL_perm (xs : List Int) : (sortL xs).Perm xs := List.mergeSort_perm xs _
theorem sortL_nil : sortL [] = [] := by simp [sortL]
/-- A list that is in order and a permutation is the list in order. -/
theorem sortL_of {xs ys : List Int} (hp : ys.Perm xs) (hs : ys.Pairwise (· ≤ ·)) : ys = sortL xs := by
  refine List.Perm.eq_of_pairwise (le := fun x y : Int => x ≤ y) (fun a b _ _ h1 h2 => Int.le_antisymm h1 h2) hs ?_ (hp.trans (sortL_perm xs).symm)
  have h := List.pairwise_mergeSort (le := fun x y : Int => decide (x ≤ y)) (fun a b c h1 h2 => by simp at *; omega) (fun a b => by simp; omega) xs
  exact h.imp (fun h => by simpa using h)
end Go.Proofs.YtamabhdbcmjbjaaDoor

/- The graph of some nodes is a graph; the cards of a deck. Plain mathematics, no condition. -/






namespace Go.Proofs.YtamabhdbcmjbjaaDoor
open Go Go.RowKit
set_option linter.unusedVariables false
set_option maxRecDepth 100000

/-- The graph of the nodes of a set. -/
def partG (L : List Int) (s : Nat) : List Int := ints (lrun (nodesL s).length id (keptIn L (nodesL s) (rows (nodesL s).length)))
theorem partG_length (L : List Int) (s : Nat) : (partG L s).length = (nodesL s).length := by unfold partG; rw [ints_length, lrun_length]
theorem partG_eq {L : List Int} (hg : IsGraph L) {s : Nat} (hs : s < 2 ^ L.length) : partG L s = ints (partTo L (nodesL s) (nodesL s).length) := by
  unfold partG
  rw [part_eq L hg (nodesL s) (nodes_lt hs)]
theorem partG_bt {L : List Int} (hg : IsGraph L) {s : Nat} (hs : s < 2 ^ L.length) (i j : Nat) : bt (partG L s) i j = 1 ↔ i < (nodesL s).length ∧ j < (nodesL s).length ∧ bt L (at_ (nodesL s) i) (at_ (nodesL s) j) = 1 := by
  rw [partG_eq hg hs, bt_ints, partTo_bit]
theorem bt_zero_of {L : List Int} {i j : Nat} (h : ¬ bt L i j = 1) : bt L i j = 0 := by have := bt_le L i j; omega
theorem partG_graph {L : List Int} (hg : IsGraph L) {s : Nat} (hs : s < 2 ^ L.length) (h1 : 1 ≤ (nodesL s).length) : IsGraph (partG L s) := by
  have hl := partG_length L s
  have hn6 := nodes_length s
  have hat : ∀ i, i < (nodesL s).length → at_ (nodesL s) i < L.length := fun i hi => at_lt (nodes_lt hs) hi
  refine ⟨by rw [hl]; exact h1, by rw [hl]; exact hn6, fun v hv => ?_⟩
  rw [hl] at hv
  refine ⟨?_, ?_, fun w hw => ?_⟩
  · unfold InR
    rw [hl]
    have e : (partG L s)[v]?.getD 0 = ((partTo L (nodesL s) (nodesL s).length)[v]?.getD 0 : Nat) := by rw [partG_eq hg hs, ints_get]
    rw [e]
    refine ⟨by omega, ?_⟩
    have h1 : (partTo L (nodesL s) (nodesL s).length)[v]?.getD 0 < 2 ^ (nodesL s).length := by
      refine Nat.lt_pow_two_of_testBit _ fun j hj => ?_
      cases e : ((partTo L (nodesL s) (nodesL s).length)[v]?.getD 0).testBit j with
      | false => rfl
      | true =>
        have h2 := (partTo_bit L (nodesL s) v j).1 e
        omega
    omega
  · refine bt_zero_of fun h3 => ?_
    have h4 := (partG_bt hg hs v v).1 h3
    have := (hg.2.2 _ (hat v hv)).2.1
    omega
  · refine bt_eq ?_
    rw [partG_bt hg hs, partG_bt hg hs]
    constructor
    · rintro ⟨a, b, c⟩; exact ⟨b, a, (bt_sym hg (hat _ b) (hat _ a)).trans c⟩
    · rintro ⟨a, b, c⟩; exact ⟨b, a, (bt_sym hg (hat _ b) (hat _ a)).trans c⟩

/-- The set of all nodes but one. -/
def dropSet (n v : Nat) : Nat := less (2 ^ n - 1) (2 ^ v)
theorem dropSet_facts : ∀ n : Fin 7, ∀ v : Fin 6, v.val < n.val → dropSet n.val v.val < 2 ^ n.val ∧ (nodesL (dropSet n.val v.val)).length = n.val - 1 := by decide +kernel
theorem dropSet_lt {n v : Nat} (hn : n ≤ 6) (hv : v < n) : dropSet n v < 2 ^ n := (dropSet_facts ⟨n, by omega⟩ ⟨v, by omega⟩ hv).1
theorem dropSet_len {n v : Nat} (hn : n ≤ 6) (hv : v < n) : (nodesL (dropSet n v)).length = n - 1 := (dropSet_facts ⟨n, by omega⟩ ⟨v, by omega⟩ hv).2
/-- The graph without a node. -/
def dropG (L : List Int) (v : Nat) : List Int := partG L (dropSet L.length v)
theorem dropG_length {L : List Int} (hg : IsGraph L) {v : Nat} (hv : v < L.length) : (dropG L v).length = L.length - 1 := by
  unfold dropG; rw [partG_length, dropSet_len hg.2.1 hv]
theorem dropG_graph {L : List Int} (hg : IsGraph L) (h2 : 2 ≤ L.length) {v : Nat} (hv : v < L.length) : IsGraph (dropG L v) :=
  partG_graph hg (dropSet_lt hg.2.1 hv) (by rw [dropSet_len hg.2.1 hv]; omega)
/-- A card: the least code of the graph without a node. -/
def cardOf (L : List Int) (v : Nat) : Nat := leastL (dropG L v)
def deckTo (L : List Int) (k : Nat) : List Int := ints ((List.range k).map (cardOf L))
theorem deckTo_zero (L : List Int) : deckTo L 0 = [] := rfl
theorem deckTo_succ (L : List Int) (k : Nat) : deckTo L (k + 1) = deckTo L k ++ [((cardOf L k : Nat) : Int)] := by simp [deckTo, List.range_succ, ints]
theorem deckTo_length (L : List Int) (k : Nat) : (deckTo L k).length = k := by simp [deckTo, ints]
/-- The deck of a graph. -/
def deckL (L : List Int) : List Int := sortL (deckTo L L.length)
theorem deckL_length (L : List Int) : (deckL L).length = L.length := by unfold deckL; rw [sortL_length, deckTo_length]
/-- Codes are small. -/
theorem least_small {L : List Int} (hg : IsGraph L) : leastL L < 32768 := by
  obtain ⟨P, hP, e⟩ := least_is hg
  rw [e]
  exact crun_small _ _ (rows_length _ (by rw [namedL_length]; exact hg.2.1))
theorem least_lt {L : List Int} (hg : IsGraph L) : leastL L < 2 ^ (rows L.length).length := by
  obtain ⟨P, hP, e⟩ := least_is hg
  rw [e]
  have h := crun_lt (namedL L P) (rows (namedL L P).length)
  rw [namedL_length] at h
  unfold codeOf
  rw [namedL_length]
  exact h
end Go.Proofs.YtamabhdbcmjbjaaDoor

/- Codes and graphs lead to each other, bit by bit; one edge taken away. Plain mathematics, no condition. -/

namespace Go.Proofs.YtamabhdbcmjbjaaDoor
open Go Go.RowKit
set_option linter.unusedVariables false
set_option maxRecDepth 100000

theorem get_snoc {α : Type} {l : List α} {x e : α} {k : Nat} : (l ++ [x])[k]? = some e ↔ l[k]? = some e ∨ (k = l.length ∧ x = e) := by
  by_cases h : k < l.length
  · rw [List.getElem?_append_left h]
    constructor
    · exact fun h => .inl h
    · rintro (h | ⟨h, _⟩)
      · exact h
      · omega
  · rw [List.getElem?_append_right (by omega)]
    have h0 : l[k]? = none := List.getElem?_eq_none (by omega)
    rw [h0]
    by_cases h2 : k = l.length
    · subst h2; simp
    · have h3 : ([x] : List α)[k - l.length]? = none := List.getElem?_eq_none (by simp; omega)
      rw [h3]
      simp [h2]
/-- A pair in either order. -/
def Either (e : Nat × Nat) (i j : Nat) : Prop := (i = e.1 ∧ j = e.2) ∨ (i = e.2 ∧ j = e.1)
theorem run_bit (c n : Nat) (ps : List (Nat × Nat)) (hp : ∀ e ∈ ps, e.1 < n ∧ e.2 < n) (i j : Nat) :
    ((run c n ps).1[i]?.getD 0).testBit j = true ↔ ∃ k e, ps[k]? = some e ∧ c / 2 ^ k % 2 = 1 ∧ Either e i j := by
  induction ps using snoc_ind with
  | h0 =>
    have h : ((run c n []).1[i]?.getD 0) = 0 := by rw [run_nil]; by_cases h : i < n <;> simp [h]
    rw [h]; simp
  | h1 l x ih =>
    have hx := hp x (by simp)
    have ih := ih (fun e he => hp e (by simp [he]))
    rw [run_snoc]
    show ((lnk (run c n l).1 x.1 x.2 (c / 2 ^ (run c n l).2 % 2))[i]?.getD 0).testBit j = true ↔ _
    rw [run_at, lnk_or, orAt_bit _ _ _ _ _ (by rw [orAt_length, run_length]; exact hx.2), orAt_bit _ _ _ _ _ (by rw [run_length]; exact hx.1), bit_test _ _ _ (by omega), bit_test _ _ _ (by omega)]
    simp only [Bool.or_eq_true, Bool.and_eq_true, decide_eq_true_eq, ih]
    constructor
    · rintro ((⟨k, e, h1, h2, h3⟩ | ⟨h1, h2, h3⟩) | ⟨h1, h2, h3⟩)
      · exact ⟨k, e, get_snoc.2 (.inl h1), h2, h3⟩
      · exact ⟨l.length, x, get_snoc.2 (.inr ⟨rfl, rfl⟩), h2, .inl ⟨h1, h3⟩⟩
      · exact ⟨l.length, x, get_snoc.2 (.inr ⟨rfl, rfl⟩), h2, .inr ⟨h1, h3⟩⟩
    · rintro ⟨k, e, h1, h2, h3⟩
      rcases get_snoc.1 h1 with h4 | ⟨h4, h5⟩
      · exact .inl (.inl ⟨k, e, h4, h2, h3⟩)
      · subst h4; subst h5
        rcases h3 with ⟨h5, h6⟩ | ⟨h5, h6⟩
        · exact .inl (.inr ⟨h5, h2, h6⟩)
        · exact .inr ⟨h5, h2, h6⟩
theorem rows_lt {n : Nat} : ∀ e ∈ rows n, e.1 < n ∧ e.2 < n := fun e he => by have := rows_mem n e he; omega
/-- The graph of a code. -/
def codeG (n c : Nat) : List Int := ints (ofCode n c)
theorem codeG_length (n c : Nat) : (codeG n c).length = n := by unfold codeG; rw [ints_length, ofCode_length]
theorem codeG_bt (n c i j : Nat) : bt (codeG n c) i j = 1 ↔ ∃ k e, (rows n)[k]? = some e ∧ c / 2 ^ k % 2 = 1 ∧ Either e i j := by
  unfold codeG
  rw [bt_ints]
  exact run_bit c n (rows n) rows_lt i j
theorem rows_get {n k : Nat} {e : Nat × Nat} (h : (rows n)[k]? = some e) : e.1 < e.2 ∧ e.2 < n := rows_mem n e (List.mem_of_getElem? h)
theorem rows_inj {n : Nat} (hn : n ≤ 6) {k k' : Nat} {e : Nat × Nat} (h : (rows n)[k]? = some e) (h' : (rows n)[k']? = some e) : k = k' := by
  have hd := rows_nodup ⟨n, by omega⟩
  obtain ⟨h1, h2⟩ := List.getElem?_eq_some_iff.1 h
  obtain ⟨h3, h4⟩ := List.getElem?_eq_some_iff.1 h'
  have hp := List.pairwise_iff_getElem.1 hd
  rcases Nat.lt_trichotomy k k' with h5 | h5 | h5
  · exact absurd (h2.trans h4.symm) (hp k k' h1 h3 h5)
  · exact h5
  · exact absurd (h4.trans h2.symm) (hp k' k h3 h1 h5)
theorem rows_at {n a b : Nat} (h : a < b) (hb : b < n) : ∃ k : Nat, (rows n)[k]? = some (a, b) := by
  obtain ⟨k, hk, e⟩ := List.mem_iff_getElem.1 ((rows_all n a b).2 ⟨h, hb⟩)
  exact ⟨k, by rw [List.getElem?_eq_getElem hk, e]⟩
theorem codeG_at {n c k : Nat} (hn : n ≤ 6) {e : Nat × Nat} (h : (rows n)[k]? = some e) : bt (codeG n c) e.1 e.2 = c / 2 ^ k % 2 := by
  have h1 := bt_le (codeG n c) e.1 e.2
  have h2 : bt (codeG n c) e.1 e.2 = 1 ↔ c / 2 ^ k % 2 = 1 := by
    rw [codeG_bt]
    have he := rows_get h
    constructor
    · rintro ⟨k', e', h3, h4, h5⟩
      have he' := rows_get h3
      have hee : e' = e := by
        rcases h5 with ⟨h6, h7⟩ | ⟨h6, h7⟩
        · exact Prod.ext h6.symm h7.symm
        · omega
      subst hee
      rw [rows_inj hn h h3]
      exact h4
    · exact fun h3 => ⟨k, e, h, h3, .inl ⟨rfl, rfl⟩⟩
  by_cases h3 : c / 2 ^ k % 2 = 1
  · rw [h3, h2.2 h3]
  · have h4 : ¬ bt (codeG n c) e.1 e.2 = 1 := fun h => h3 (h2.1 h)
    omega
theorem codeG_graph {n : Nat} (c : Nat) (h1 : 1 ≤ n) (h6 : n ≤ 6) : IsGraph (codeG n c) := by
  have hl := codeG_length n c
  refine ⟨by rw [hl]; exact h1, by rw [hl]; exact h6, fun v hv => ?_⟩
  rw [hl] at hv
  refine ⟨?_, bt_zero_of fun h3 => ?_, fun w hw => bt_eq ?_⟩
  · unfold InR
    rw [hl]
    have e : (codeG n c)[v]?.getD 0 = ((ofCode n c)[v]?.getD 0 : Nat) := by unfold codeG; rw [ints_get]
    rw [e]
    refine ⟨by omega, ?_⟩
    have h2 : (ofCode n c)[v]?.getD 0 < 2 ^ n := by
      refine Nat.lt_pow_two_of_testBit _ fun j hj => ?_
      cases hb : ((ofCode n c)[v]?.getD 0).testBit j with
      | false => rfl
      | true =>
        obtain ⟨k, e, h3, _, h4⟩ := (run_bit c n (rows n) rows_lt v j).1 hb
        have := rows_get h3
        rcases h4 with ⟨_, h5⟩ | ⟨_, h5⟩ <;> omega
    omega
  · obtain ⟨k, e, h4, _, h5⟩ := (codeG_bt n c v v).1 h3
    have := rows_get h4
    rcases h5 with ⟨h6, h7⟩ | ⟨h6, h7⟩ <;> omega
  · rw [codeG_bt, codeG_bt]
    constructor
    · rintro ⟨k, e, h3, h4, h5⟩; exact ⟨k, e, h3, h4, h5.symm.imp (fun ⟨a, b⟩ => ⟨b, a⟩) (fun ⟨a, b⟩ => ⟨b, a⟩)⟩
    · rintro ⟨k, e, h3, h4, h5⟩; exact ⟨k, e, h3, h4, h5.symm.imp (fun ⟨a, b⟩ => ⟨b, a⟩) (fun ⟨a, b⟩ => ⟨b, a⟩)⟩

theorem crun_bitE (L : List Int) (ps : List (Nat × Nat)) (k : Nat) : (crun L ps).1.testBit k = true ↔ ∃ e, ps[k]? = some e ∧ bt L e.1 e.2 = 1 := by
  induction ps using snoc_ind with
  | h0 => show (0 : Nat).testBit k = true ↔ _; simp
  | h1 l x ih =>
    rw [crun_snoc]
    show ((crun L l).1 ||| bt L x.1 x.2 * 2 ^ (crun L l).2).testBit k = true ↔ _
    rw [crun_at, Nat.testBit_or, bit_test _ _ _ (bt_le _ _ _)]
    simp only [Bool.or_eq_true, Bool.and_eq_true, decide_eq_true_eq, ih, get_snoc]
    constructor
    · rintro (⟨e, h1, h2⟩ | ⟨h1, h2⟩)
      · exact ⟨e, .inl h1, h2⟩
      · exact ⟨x, .inr ⟨h2, rfl⟩, h1⟩
    · rintro ⟨e, (h1 | ⟨h1, h2⟩), h3⟩
      · exact .inl ⟨e, h1, h3⟩
      · subst h2; exact .inr ⟨h3, h1⟩
theorem code_bit {L : List Int} {k : Nat} {e : Nat × Nat} (h : (rows L.length)[k]? = some e) : codeOf L / 2 ^ k % 2 = bt L e.1 e.2 := by
  have h1 := crun_bitE L (rows L.length) k
  have h2 : (codeOf L).testBit k = true ↔ bt L e.1 e.2 = 1 := by
    show (crun L (rows L.length)).1.testBit k = true ↔ _
    rw [h1]
    constructor
    · rintro ⟨e', h3, h4⟩
      rw [h] at h3
      cases h3
      exact h4
    · exact fun h3 => ⟨e, h, h3⟩
  rw [Nat.testBit_eq_decide_div_mod_eq, decide_eq_true_eq] at h2
  have := bt_le L e.1 e.2
  by_cases h3 : bt L e.1 e.2 = 1
  · rw [h3, h2.2 h3]
  · have : ¬ codeOf L / 2 ^ k % 2 = 1 := fun h4 => h3 (h2.1 h4)
    omega
theorem code_lt (L : List Int) : codeOf L < 2 ^ (rows L.length).length := crun_lt L _
theorem codeG_code {n c : Nat} (hn : n ≤ 6) (hc : c < 2 ^ (rows n).length) : codeOf (codeG n c) = c := by
  refine Nat.eq_of_testBit_eq fun k => ?_
  have hl := codeG_length n c
  by_cases hk : k < (rows n).length
  · have h := List.getElem?_eq_getElem hk
    have h1 := code_bit (L := codeG n c) (k := k) (e := (rows n)[k]) (by rw [hl]; exact h)
    rw [codeG_at hn h] at h1
    rw [Nat.testBit_eq_decide_div_mod_eq, Nat.testBit_eq_decide_div_mod_eq, h1]
  · have h2 := code_lt (codeG n c)
    rw [hl] at h2
    rw [Nat.testBit_lt_two_pow (Nat.lt_of_lt_of_le h2 (Nat.pow_le_pow_right (by omega) (by omega))), Nat.testBit_lt_two_pow (Nat.lt_of_lt_of_le hc (Nat.pow_le_pow_right (by omega) (by omega)))]
theorem codeG_of {L : List Int} (hg : IsGraph L) : codeG L.length (codeOf L) = L := by
  have hG := codeG_graph (codeOf L) hg.1 hg.2.1
  have hl := codeG_length L.length (codeOf L)
  refine code_inj hG hg hl ?_
  exact codeG_code hg.2.1 (code_lt L)
end Go.Proofs.YtamabhdbcmjbjaaDoor
