/- Texts in one: Less, TryMath, NamedMath, NamesMath, NamesDef, Grid, PartMath, LikeDef, PermsMath, AlikeMath, Codes, Group, UpN, SortL, PartGraph, CodeBits, CodesDef, IsCodeDef, IsCode, DeckMath, ImplLinked, LinkedLaw, OtherList, Bits, OtherGraph, PromLinked, SpecLinked, SpecLinkedAny, SeqO, Edges, SizeFn, SpecSize, TreeFns. -/
import Derived.Test.YtkngijkhhonikaaDoorBaseA
import Derived.RangeFuncBox
import Derived.StillTailTactics
import Derived.RangeFuncNested
import Derived.RangeFuncBound
import Derived.RangeFuncCalls
import Derived.RangeFuncLeaves
import Derived.RangeFuncFrom

/- A set less another one. -/


namespace Go.Proofs.YtkngijkhhonikaaDoor
open Go Go.RowKit

/-- The nodes of one set that are none of the other one's. -/
def less (a b : Nat) : Nat := a &&& (18446744073709551615 - b)
theorem less_le (a b : Nat) : less a b ≤ a := Nat.and_le_left
theorem less_op (a b : Nat) (ha : a < 1048576) (hb : b < 1048576) : bits .andNot .i64 (a : Int) (b : Int) = ((less a b : Nat) : Int) := i64_andNot_nat a b (by omega) (by omega)
end Go.Proofs.YtkngijkhhonikaaDoor

/- Names tried one behind the other, leaving off where a beginning does not fit; what a try keeps of the world. -/





namespace Go.Proofs.YtkngijkhhonikaaDoor
open Go Go.RowKit
set_option linter.unusedVariables false

/-- All names that begin with P, over the nodes of s, that come to the list. -/
def dfs (fit : List (List Nat) → List Nat → Bool) : Nat → List (List Nat) → List Nat → Nat → List (List Nat)
  | 0, acc, P, _ => acc ++ [P]
  | k + 1, acc, P, s => (nodesL s).foldl (fun acc v => if fit acc (P ++ [v]) = true then dfs fit k acc (P ++ [v]) (less s (2 ^ v)) else acc) acc
def stepF (fit : List (List Nat) → List Nat → Bool) (k : Nat) (P : List Nat) (s : Nat) (acc : List (List Nat)) (v : Nat) : List (List Nat) :=
  if fit acc (P ++ [v]) = true then dfs fit k acc (P ++ [v]) (less s (2 ^ v)) else acc
def runF (fit : List (List Nat) → List Nat → Bool) (k : Nat) (P : List Nat) (s : Nat) (acc : List (List Nat)) (vs : List Nat) : List (List Nat) := vs.foldl (stepF fit k P s) acc
theorem dfs_zero (fit : List (List Nat) → List Nat → Bool) (acc : List (List Nat)) (P : List Nat) (s : Nat) : dfs fit 0 acc P s = acc ++ [P] := rfl
theorem dfs_succ (fit : List (List Nat) → List Nat → Bool) (k : Nat) (acc : List (List Nat)) (P : List Nat) (s : Nat) : dfs fit (k + 1) acc P s = runF fit k P s acc (nodesL s) := rfl
theorem runF_nil (fit : List (List Nat) → List Nat → Bool) (k : Nat) (P : List Nat) (s : Nat) (acc : List (List Nat)) : runF fit k P s acc [] = acc := rfl
theorem runF_snoc (fit : List (List Nat) → List Nat → Bool) (k : Nat) (P : List Nat) (s : Nat) (acc : List (List Nat)) (vs : List Nat) (v : Nat) : runF fit k P s acc (vs ++ [v]) = stepF fit k P s (runF fit k P s acc vs) v := by simp [runF]
theorem run_pre {f : List (List Nat) → Nat → List (List Nat)} (hf : ∀ acc v, acc <+: f acc v) (vs : List Nat) (acc : List (List Nat)) : acc <+: vs.foldl f acc := by
  induction vs generalizing acc with
  | nil => exact List.prefix_refl _
  | cons v vs ih => exact (hf acc v).trans (ih _)
theorem dfs_pre (fit : List (List Nat) → List Nat → Bool) (k : Nat) : ∀ (acc : List (List Nat)) (P : List Nat) (s : Nat), acc <+: dfs fit k acc P s := by
  induction k with
  | zero => intro acc P s; exact List.prefix_append _ _
  | succ k ih =>
    intro acc P s
    rw [dfs_succ]
    refine run_pre (fun acc v => ?_) _ _
    unfold stepF
    split
    · exact ih _ _ _
    · exact List.prefix_refl _
theorem stepF_pre (fit : List (List Nat) → List Nat → Bool) (k : Nat) (P : List Nat) (s : Nat) (acc : List (List Nat)) (v : Nat) : acc <+: stepF fit k P s acc v := by
  unfold stepF
  split
  · exact dfs_pre _ _ _ _ _
  · exact List.prefix_refl _
theorem runF_mono (fit : List (List Nat) → List Nat → Bool) (k : Nat) (P : List Nat) (s : Nat) (acc : List (List Nat)) {vs us : List Nat} (h : vs <+: us) : runF fit k P s acc vs <+: runF fit k P s acc us := by
  obtain ⟨t, rfl⟩ := h
  unfold runF
  rw [List.foldl_append]
  exact run_pre (fun acc v => stepF_pre _ _ _ _ _ _) _ _

/-! ### sets -/
theorem less_bit : ∀ (s : Fin 64) (v : Fin 6), less s.val (2 ^ v.val) < 64 ∧ (s.val / 2 ^ v.val % 2 = 1 → nodesL (less s.val (2 ^ v.val)) = (nodesL s.val).filter (fun x => x != v.val) ∧ (nodesL (less s.val (2 ^ v.val))).length + 1 = (nodesL s.val).length) := by decide +kernel
theorem nodes_none : ∀ s : Fin 64, (nodesL s.val).length = 0 → s.val = 0 := by decide +kernel
theorem less_lt (s v m : Nat) (hs : s < 2 ^ m) : less s (2 ^ v) < 2 ^ m := Nat.lt_of_le_of_lt (less_le s (2 ^ v)) hs

/-! ### what is kept -/
/-- Every block from B on lies as it lay. -/
def Rest0 (B : Nat) (X Y : World) : Prop := X.heap.size ≤ Y.heap.size ∧ ∀ (k : Nat) (o : Obj), B ≤ k → X.heap[k]? = some o → Y.heap[k]? = some o
/-- The same, but for the list in the making and its box. -/
def RestP (B : Nat) (X Y : World) : Prop := X.heap.size ≤ Y.heap.size ∧ ∀ (k : Nat) (o : Obj), B ≤ k → k ≠ B + 1 → k ≠ B + 2 → X.heap[k]? = some o → Y.heap[k]? = some o
theorem Rest0.p {B : Nat} {X Y : World} (h : Rest0 B X Y) : RestP B X Y := ⟨h.1, fun k o h1 _ _ h4 => h.2 k o h1 h4⟩
theorem RestP.refl (B : Nat) (X : World) : RestP B X X := ⟨Nat.le_refl _, fun _ _ _ _ _ h => h⟩
theorem RestP.trans {B : Nat} {X Y Z : World} (h : RestP B X Y) (k : RestP B Y Z) : RestP B X Z := ⟨Nat.le_trans h.1 k.1, fun i o h1 h2 h3 h4 => k.2 i o h1 h2 h3 (h.2 i o h1 h2 h3 h4)⟩
theorem Rest0.trans {B : Nat} {X Y Z : World} (h : Rest0 B X Y) (k : Rest0 B Y Z) : Rest0 B X Z := ⟨Nat.le_trans h.1 k.1, fun i o h1 h4 => k.2 i o h1 (h.2 i o h1 h4)⟩
theorem restP_of_grown {B : Nat} {X Y : World} {row : Option Nat} (h : X.grownBy Y row) (hr : ∀ r, row = some r → r = B + 1 ∨ r = B + 2 ∨ X.heap.size ≤ r ∨ r < B) : RestP B X Y :=
  ⟨h.size, fun k o h1 h2 h3 h4 => (h.block k (Array.getElem?_eq_some_iff.1 h4).1 (fun e => by
    have h5 := (Array.getElem?_eq_some_iff.1 h4).1
    rcases hr k e.symm with h | h | h | h <;> omega)).trans h4⟩
theorem restP_alloc (B : Nat) (X : World) (o : Obj) : RestP B X (X.alloc o) := ⟨by simp, fun k o' _ _ _ h => (Below.heap_alloc _ _ _ (Array.getElem?_eq_some_iff.1 h).1).trans h⟩
theorem restP_below {B : Nat} {X Y : World} (h : Below X.heap.size X Y) : RestP B X Y := ⟨h.size, fun k o _ _ _ h4 => (h.block k (Array.getElem?_eq_some_iff.1 h4).1).trans h4⟩
/-- Between a world and one that came out of it, but for blocks that came later. -/
theorem restP_later {B m : Nat} {X Y Z : World} (h : RestP B X Y) (hm : X.heap.size ≤ m) (hg : ∀ (k : Nat) (o : Obj), k < m → k ≠ B + 1 → k ≠ B + 2 → Y.heap[k]? = some o → Z.heap[k]? = some o) (hs : Y.heap.size ≤ Z.heap.size) : RestP B X Z :=
  ⟨Nat.le_trans h.1 hs, fun k o h1 h2 h3 h4 => hg k o (Nat.lt_of_lt_of_le (Array.getElem?_eq_some_iff.1 h4).1 hm) h2 h3 (h.2 k o h1 h2 h3 h4)⟩
theorem boxed_restP {B k : Nat} {t : TypeId} {v : Value} {X Y : World} (h : Boxed X k t v) (hr : RestP B X Y) (h1 : B ≤ k) (h2 : k ≠ B + 1) (h3 : k ≠ B + 2) : Boxed Y k t v := hr.2 k _ h1 h2 h3 h
theorem keepsFrom_restP {B b : Nat} {X Y : World} (h : RestP B X Y) (hb : B + 3 ≤ b) : KeepsFrom b X Y := ⟨h.1, fun k o h1 h2 _ => h.2 k o (by omega) (by omega) (by omega) h2⟩

/-- An object that a try never turns: cells that are no truth values. -/
def hardO : Obj → Bool
  | .cells _ t _ => decide (t ≠ 4)
  | _ => false
theorem soft_of_not_cells {o : Obj} (h : o.isCells = false) : hardO o = false := by cases o <;> first | rfl | (simp [Obj.isCells] at h)
theorem hard_boxed {X : World} {k : Nat} {t : TypeId} {v : Value} (h : Boxed X k t v) (ht : t ≠ 4) : ∃ o : Obj, X.heap[k]? = some o ∧ hardO o = true := ⟨_, h, decide_eq_true ht⟩
theorem soft_bool {X : World} {k : Nat} {v : Value} (h : Boxed X k 4 v) : ∃ o : Obj, X.heap[k]? = some o ∧ hardO o = false := ⟨_, h, rfl⟩
/-- What lay ahead of B stays; of the rest, but for the list in the making and its box, all cells that are no truth values. -/
def Soft (B : Nat) (X Y : World) : Prop := X.heap.size ≤ Y.heap.size ∧ ∀ (k : Nat) (o : Obj), X.heap[k]? = some o → (k < B ∨ (k ≠ B + 1 ∧ k ≠ B + 2 ∧ hardO o = true)) → Y.heap[k]? = some o
theorem Soft.trans {B : Nat} {X Y Z : World} (h : Soft B X Y) (k : Soft B Y Z) : Soft B X Z := ⟨Nat.le_trans h.1 k.1, fun i o hi hc => k.2 i o (h.2 i o hi hc) hc⟩
theorem Soft.drew {B : Nat} (X : World) : Soft B X X.drew := ⟨Nat.le_refl _, fun _ _ h _ => h⟩
theorem soft_rest {B : Nat} {X Y : World} (h : RestP B X Y) (hb : Below B X Y) : Soft B X Y := ⟨h.1, fun k o hk hc => by
  by_cases h1 : k < B
  · exact (hb.block k h1).trans hk
  · rcases hc with hc | ⟨h2, h3, _⟩
    · exact absurd hc h1
    · exact h.2 k o (by omega) h2 h3 hk⟩
theorem soft_new {B : Nat} {X Y : World} (h : Below X.heap.size X Y) : Soft B X Y := ⟨h.size, fun k o hk _ => (h.block k (Array.getElem?_eq_some_iff.1 hk).1).trans hk⟩
theorem soft_grown {B : Nat} {X Y : World} {row : Option Nat} (h : X.grownBy Y row) (hr : ∀ r, row = some r → B ≤ r ∧ (r = B + 1 ∨ r = B + 2 ∨ ∃ o : Obj, X.heap[r]? = some o ∧ hardO o = false)) : Soft B X Y := ⟨h.size, fun k o hk hc => by
  refine (h.block k (Array.getElem?_eq_some_iff.1 hk).1 (fun e => ?_)).trans hk
  obtain ⟨h1, h2⟩ := hr k e.symm
  rcases hc with hc | ⟨c1, c2, c3⟩
  · omega
  · rcases h2 with h2 | h2 | ⟨o', ho, hh⟩
    · exact c1 h2
    · exact c2 h2
    · rw [hk] at ho; cases ho; rw [c3] at hh; cases hh⟩
/-- The same as a caller of a loop over names sees it: the loop's own two objects lie between. -/
def SoftN (m : Nat) (X Y : World) : Prop := X.heap.size ≤ Y.heap.size ∧ ∀ (k : Nat) (o : Obj), X.heap[k]? = some o → (k < m ∨ (k ≠ m + 3 ∧ k ≠ m + 4 ∧ hardO o = true)) → Y.heap[k]? = some o
theorem softN_of {m : Nat} {X Y : World} (h : Soft (m + 2) X Y) : SoftN m X Y := ⟨h.1, fun k o hk hc => h.2 k o hk (by
  rcases hc with hc | ⟨h1, h2, h3⟩
  · exact .inl (by omega)
  · exact .inr ⟨by omega, by omega, h3⟩)⟩
theorem softN_new {m : Nat} {X Y : World} (h : Below X.heap.size X Y) : SoftN m X Y := ⟨h.size, fun k o hk _ => (h.block k (Array.getElem?_eq_some_iff.1 hk).1).trans hk⟩
theorem softN_put {m r : Nat} {X Y : World} (h : X.grownBy Y (some r)) (hm : m ≤ r) (hr : ∃ o : Obj, X.heap[r]? = some o ∧ hardO o = false) : SoftN m X Y := ⟨h.size, fun k o hk hc => by
  refine (h.block k (Array.getElem?_eq_some_iff.1 hk).1 (fun e => ?_)).trans hk
  injection e with e
  subst e
  obtain ⟨o', ho, hh⟩ := hr
  rcases hc with hc | ⟨_, _, c3⟩
  · omega
  · rw [hk] at ho; cases ho; rw [c3] at hh; cases hh⟩
theorem SoftN.box {m k : Nat} {t : TypeId} {v : Value} {X Y : World} (h : SoftN m X Y) (hb : Boxed X k t v) (hk : k < m ∨ (k ≠ m + 3 ∧ k ≠ m + 4 ∧ t ≠ 4)) : Boxed Y k t v := h.2 k _ hb (by
  rcases hk with hk | ⟨h1, h2, h3⟩
  · exact .inl hk
  · exact .inr ⟨h1, h2, decide_eq_true h3⟩)
theorem SoftN.row {m B : Nat} {v : Value} {xs : List Int} {X Y : World} (h : SoftN m X Y) (hr : Row X B v xs) (hv : ∀ g, v.ownBlock = some g → g < m ∨ (g ≠ m + 3 ∧ g ≠ m + 4)) : Row Y B v xs := by
  obtain ⟨h0, h1⟩ := hr
  refine ⟨h0, ?_⟩
  rcases h1 with h1 | ⟨g, cap, cur, a1, a2, a3, a4⟩
  · exact .inl h1
  · refine .inr ⟨g, cap, cur, a1, a2, h.2 g _ a3 ?_, a4⟩
    rcases hv g (by rw [a1]; rfl) with h2 | ⟨h2, h3⟩
    · exact .inl h2
    · exact .inr ⟨h2, h3, rfl⟩

/-- The last number of a list in the making goes. -/
theorem cut_row {W : World} {B g n : Nat} {xs : List Int} {y : Int} (h : Row W B (.slice (some ⟨g, 0, none⟩) (xs.length + 1) n) (xs ++ [y])) : Row W B (.slice (some ⟨g, 0, none⟩) xs.length n) xs := by
  obtain ⟨h1, h2⟩ := h
  rcases h2 with ⟨h3, _⟩ | ⟨g', cap, cur, h3, h4, h5, h6, h7, h8, h9⟩
  · cases h3
  · injection h3 with e1 e2 e3
    injection e1 with e1
    injection e1 with e1
    subst e1
    subst e3
    refine ⟨by simp, .inr ⟨g, n, cur, rfl, h4, h5, ?_, h7, h8, ?_⟩⟩
    · simp at h6; omega
    · have h10 := congrArg (List.take xs.length) h9
      rw [List.take_take] at h10
      simp at h10
      simpa using h10
/-- All names that fit, in order. -/
def allNames (fit : List (List Nat) → List Nat → Bool) (n : Nat) : List (List Nat) := dfs fit n [] [] (2 ^ n - 1)
end Go.Proofs.YtkngijkhhonikaaDoor

/- A graph with its nodes named: the model's way and the program's make one list. Plain mathematics, no condition. -/

namespace Go.Proofs.YtkngijkhhonikaaDoor
open Go Go.RowKit

def orAt (g : List Nat) (a x : Nat) : List Nat := g.set a (g[a]?.getD 0 ||| x)
theorem orAt_length (g : List Nat) (a x : Nat) : (orAt g a x).length = g.length := by simp [orAt]
theorem orAt_bit (g : List Nat) (a x i j : Nat) (ha : a < g.length) : ((orAt g a x)[i]?.getD 0).testBit j = ((g[i]?.getD 0).testBit j || (decide (i = a) && x.testBit j)) := by
  unfold orAt
  by_cases h : i = a
  · subst h
    rw [List.getElem?_set_self ha]
    simp
  · rw [List.getElem?_set_ne (fun e => h e.symm)]
    simp [h]
theorem lnk_or (g : List Nat) (a b bit : Nat) : lnk g a b bit = orAt (orAt g a (bit * 2 ^ b)) b (bit * 2 ^ a) := rfl
theorem bit_test (bit b j : Nat) (h : bit ≤ 1) : (bit * 2 ^ b).testBit j = (decide (bit = 1) && decide (j = b)) := by
  by_cases h1 : bit = 1
  · subst h1
    rw [Nat.one_mul, Nat.testBit_two_pow]
    simp [eq_comm]
  · have h0 : bit = 0 := by omega
    subst h0
    simp

/-- The program's way: a link for each edge. -/
def lrun (n : Nat) (p : Nat → Nat) (es : List (Nat × Nat)) : List Nat := es.foldl (fun g e => lnk g (p e.1) (p e.2) 1) (List.replicate n 0)
theorem lrun_snoc (n : Nat) (p : Nat → Nat) (es : List (Nat × Nat)) (e : Nat × Nat) : lrun n p (es ++ [e]) = lnk (lrun n p es) (p e.1) (p e.2) 1 := by simp [lrun]
theorem lrun_length (n : Nat) (p : Nat → Nat) (es : List (Nat × Nat)) : (lrun n p es).length = n := by
  induction es using snoc_ind with
  | h0 => simp [lrun]
  | h1 l x ih => rw [lrun_snoc, lnk_length, ih]
theorem lrun_bit (n : Nat) (p : Nat → Nat) (hp : ∀ v, v < n → p v < n) (es : List (Nat × Nat)) (he : ∀ e ∈ es, e.1 < n ∧ e.2 < n) (i j : Nat) :
    ((lrun n p es)[i]?.getD 0).testBit j = true ↔ ∃ e ∈ es, (i = p e.1 ∧ j = p e.2) ∨ (i = p e.2 ∧ j = p e.1) := by
  induction es using snoc_ind with
  | h0 =>
    have h : ((lrun n p [])[i]?.getD 0) = 0 := by unfold lrun; by_cases h : i < n <;> simp [h]
    rw [h]; simp
  | h1 l x ih =>
    have hx := he x (by simp)
    have h1 := hp _ hx.1
    have h2 := hp _ hx.2
    rw [lrun_snoc, lnk_or, orAt_bit _ _ _ _ _ (by rw [orAt_length, lrun_length]; exact h2), orAt_bit _ _ _ _ _ (by rw [lrun_length]; exact h1), bit_test _ _ _ (Nat.le_refl 1), bit_test _ _ _ (Nat.le_refl 1)]
    simp only [Bool.or_eq_true, Bool.and_eq_true, decide_eq_true_eq, ih (fun e h => he e (by simp [h])), List.mem_append, List.mem_singleton]
    constructor
    · rintro ((⟨e, h, h'⟩ | ⟨a, _, b⟩) | ⟨a, _, b⟩)
      · exact ⟨e, .inl h, h'⟩
      · exact ⟨x, .inr rfl, .inl ⟨a, b⟩⟩
      · exact ⟨x, .inr rfl, .inr ⟨a, b⟩⟩
    · rintro ⟨e, (h | rfl), h'⟩
      · exact .inl (.inl ⟨e, h, h'⟩)
      · rcases h' with ⟨a, b⟩ | ⟨a, b⟩
        · exact .inl (.inr ⟨a, trivial, b⟩)
        · exact .inr ⟨a, trivial, b⟩

/-- The model's way: each place of each row. -/
def mrun (L : List Int) (n : Nat) (p : Nat → Nat) (vs : List (Nat × Nat)) : List Nat := vs.foldl (fun g e => orAt g (p e.1) (bt L e.1 e.2 * 2 ^ p e.2)) (List.replicate n 0)
theorem mrun_snoc (L : List Int) (n : Nat) (p : Nat → Nat) (es : List (Nat × Nat)) (e : Nat × Nat) : mrun L n p (es ++ [e]) = orAt (mrun L n p es) (p e.1) (bt L e.1 e.2 * 2 ^ p e.2) := by simp [mrun]
theorem mrun_length (L : List Int) (n : Nat) (p : Nat → Nat) (es : List (Nat × Nat)) : (mrun L n p es).length = n := by
  induction es using snoc_ind with
  | h0 => simp [mrun]
  | h1 l x ih => rw [mrun_snoc, orAt_length, ih]
theorem mrun_bit (L : List Int) (n : Nat) (p : Nat → Nat) (hp : ∀ v, v < n → p v < n) (es : List (Nat × Nat)) (he : ∀ e ∈ es, e.1 < n) (i j : Nat) :
    ((mrun L n p es)[i]?.getD 0).testBit j = true ↔ ∃ e ∈ es, bt L e.1 e.2 = 1 ∧ i = p e.1 ∧ j = p e.2 := by
  induction es using snoc_ind with
  | h0 =>
    have h : ((mrun L n p [])[i]?.getD 0) = 0 := by unfold mrun; by_cases h : i < n <;> simp [h]
    rw [h]; simp
  | h1 l x ih =>
    have h1 := hp _ (he x (by simp))
    rw [mrun_snoc, orAt_bit _ _ _ _ _ (by rw [mrun_length]; exact h1), bit_test _ _ _ (bt_le _ _ _)]
    simp only [Bool.or_eq_true, Bool.and_eq_true, decide_eq_true_eq, ih (fun e h => he e (by simp [h])), List.mem_append, List.mem_singleton]
    constructor
    · rintro (⟨e, h, h'⟩ | ⟨a, b, c⟩)
      · exact ⟨e, .inl h, h'⟩
      · exact ⟨x, .inr rfl, b, a, c⟩
    · rintro ⟨e, (h | rfl), h'⟩
      · exact .inl ⟨e, h, h'⟩
      · exact .inr ⟨h'.2.1, h'.1, h'.2.2⟩

theorem list_bits {a b : List Nat} (hl : a.length = b.length) (h : ∀ i j : Nat, (a[i]?.getD 0).testBit j = true ↔ (b[i]?.getD 0).testBit j = true) : a = b := by
  refine List.ext_getElem hl fun i h1 h2 => ?_
  have h3 : (a[i]?.getD 0) = (b[i]?.getD 0) := Nat.eq_of_testBit_eq fun j => by
    have h4 := h i j
    cases e1 : (a[i]?.getD 0).testBit j <;> cases e2 : (b[i]?.getD 0).testBit j <;> simp_all
  simpa [h1, h2] using h3

theorem rows_all (n a b : Nat) : (a, b) ∈ rows n ↔ a < b ∧ b < n := by
  constructor
  · exact fun h => rows_mem n (a, b) h
  · rintro ⟨h1, h2⟩
    unfold rows
    rw [List.mem_flatMap]
    exact ⟨b, by simpa using h2, by simpa using h1⟩
/-- **Both make one list**, where the graph is one, and each place has been met. -/
theorem named_eq (L : List Int) (hg : IsGraph L) (p : Nat → Nat) (hp : ∀ v, v < L.length → p v < L.length) (vs : List (Nat × Nat)) (hv : ∀ a b, (a, b) ∈ vs ↔ a < L.length ∧ b < L.length) :
    mrun L L.length p vs = lrun L.length p (edgesIn L (rows L.length)) := by
  have sym : ∀ a b, a < L.length → b < L.length → bt L a b = bt L b a := fun a b ha hb => by
    rcases Nat.lt_trichotomy a b with h | h | h
    · exact ((hg.2.2 b hb).2.2 a h).symm
    · rw [h]
    · exact (hg.2.2 a ha).2.2 b h
  refine list_bits (by rw [mrun_length, lrun_length]) fun i j => ?_
  rw [mrun_bit L _ p hp vs (fun e he => ((hv e.1 e.2).1 he).1), lrun_bit _ p hp]
  · constructor
    · rintro ⟨⟨a, b⟩, he, hb, hi, hj⟩
      obtain ⟨ha, hb'⟩ := (hv a b).1 he
      dsimp only at hb hi hj
      rcases Nat.lt_trichotomy a b with h | h | h
      · exact ⟨(a, b), by unfold edgesIn; rw [List.mem_filter]; exact ⟨(rows_all _ _ _).2 ⟨h, hb'⟩, by simpa using hb⟩, .inl ⟨hi, hj⟩⟩
      · subst h
        have := (hg.2.2 a ha).2.1
        omega
      · exact ⟨(b, a), by unfold edgesIn; rw [List.mem_filter]; exact ⟨(rows_all _ _ _).2 ⟨h, ha⟩, by simpa using (sym b a hb' ha).trans hb⟩, .inr ⟨hi, hj⟩⟩
    · rintro ⟨⟨a, b⟩, he, h⟩
      unfold edgesIn at he
      rw [List.mem_filter] at he
      obtain ⟨he, hb⟩ := he
      obtain ⟨h1, h2⟩ := (rows_all _ _ _).1 he
      have hb1 : bt L a b = 1 := by simpa using hb
      rcases h with ⟨hi, hj⟩ | ⟨hi, hj⟩
      · exact ⟨(a, b), (hv _ _).2 ⟨by omega, h2⟩, hb1, hi, hj⟩
      · exact ⟨(b, a), (hv _ _).2 ⟨h2, by omega⟩, (sym b a h2 (by omega)).trans hb1, hi, hj⟩
  · intro e he
    unfold edgesIn at he
    rw [List.mem_filter] at he
    have := rows_mem _ _ he.1
    omega
end Go.Proofs.YtkngijkhhonikaaDoor

/- Names of nodes: each of n numbers once. Plain mathematics, no condition. -/

namespace Go.Proofs.YtkngijkhhonikaaDoor
open Go Go.RowKit

theorem nodup_len {P Q : List Nat} (h : P.Nodup) (hs : ∀ x ∈ P, x ∈ Q) : P.length ≤ Q.length := by
  induction P generalizing Q with
  | nil => simp
  | cons x P ih =>
    obtain ⟨hx, hP⟩ := List.nodup_cons.1 h
    have hq := hs x (by simp)
    have h1 := ih hP (Q := Q.erase x) (fun y hy => (List.mem_erase_of_ne (fun (e : y = x) => hx (e ▸ hy))).2 (hs y (by simp [hy])))
    have h2 := List.length_erase_of_mem hq
    have h3 : 0 < Q.length := List.length_pos_of_mem hq
    rw [List.length_cons]
    omega

theorem dup_of_not {P : List Nat} (h : ¬ P.Nodup) : ∃ x, x ∈ P ∧ ∀ y ∈ P, y ∈ P.erase x := by
  induction P with
  | nil => simp at h
  | cons x P ih =>
    by_cases hx : x ∈ P
    · refine ⟨x, by simp, fun y hy => ?_⟩
      rw [List.erase_cons_head]
      rcases List.mem_cons.1 hy with rfl | h'
      · exact hx
      · exact h'
    · have hP : ¬ P.Nodup := fun hn => h (List.nodup_cons.2 ⟨hx, hn⟩)
      obtain ⟨z, hz, hall⟩ := ih hP
      have hxz : x ≠ z := fun e => hx (e ▸ hz)
      refine ⟨z, by simp [hz], fun y hy => ?_⟩
      rw [List.erase_cons_tail (by simpa using hxz)]
      rcases List.mem_cons.1 hy with rfl | h'
      · simp
      · simp [hall y h']

/-- The set of the numbers that have come. -/
def seenOf (P : List Nat) : Nat := P.foldl (fun s x => s ||| 2 ^ x) 0
theorem seenOf_snoc (P : List Nat) (x : Nat) : seenOf (P ++ [x]) = seenOf P ||| 2 ^ x := by simp [seenOf]
theorem seenOf_bit (P : List Nat) (j : Nat) : (seenOf P).testBit j = true ↔ j ∈ P := by
  induction P using snoc_ind with
  | h0 => simp [seenOf]
  | h1 l x ih => rw [seenOf_snoc, Nat.testBit_or, Nat.testBit_two_pow, Bool.or_eq_true, ih, decide_eq_true_eq, List.mem_append, List.mem_singleton]; exact or_congr Iff.rfl ⟨Eq.symm, Eq.symm⟩
theorem seenOf_lt (P : List Nat) (n : Nat) (h : ∀ x ∈ P, x < n) : seenOf P < 2 ^ n := by
  induction P using snoc_ind with
  | h0 => exact Nat.two_pow_pos n
  | h1 l x ih =>
    rw [seenOf_snoc]
    exact Nat.or_lt_two_pow (ih fun y hy => h y (by simp [hy])) (Nat.pow_lt_pow_right (by omega) (h x (by simp)))
theorem seenOf_full (P : List Nat) (n : Nat) (h : ∀ x ∈ P, x < n) : seenOf P = 2 ^ n - 1 ↔ ∀ j, j < n → j ∈ P := by
  constructor
  · intro e j hj
    rw [← seenOf_bit, e, Nat.testBit_two_pow_sub_one]
    simpa using hj
  · intro hall
    refine Nat.eq_of_testBit_eq fun j => ?_
    rw [Nat.testBit_two_pow_sub_one]
    by_cases hj : j < n
    · rw [(seenOf_bit P j).2 (hall j hj)]; simp [hj]
    · have : j ∉ P := fun hm => hj (h j hm)
      have h0 : (seenOf P).testBit j = false := by
        cases e : (seenOf P).testBit j
        · rfl
        · exact absurd ((seenOf_bit P j).1 e) this
      rw [h0]; simp [hj]
/-- n numbers below n: all have come just if none has come twice. -/
theorem names_iff (P : List Nat) (n : Nat) (hl : P.length = n) (h : ∀ x ∈ P, x < n) : seenOf P = 2 ^ n - 1 ↔ P.Nodup := by
  rw [seenOf_full P n h]
  constructor
  · intro hall
    refine Classical.byContradiction fun hn => ?_
    obtain ⟨x, hx, hk⟩ := dup_of_not hn
    have h1 := nodup_len (List.nodup_range (n := n)) (Q := P.erase x) (fun y hy => hk y (hall y (by simpa using hy)))
    have h2 := List.length_erase_of_mem hx
    have h3 : 0 < P.length := List.length_pos_of_mem hx
    rw [List.length_range] at h1
    omega
  · intro hn j hj
    refine Classical.byContradiction fun hm => ?_
    have h1 := nodup_len (List.nodup_cons.2 ⟨hm, hn⟩) (Q := List.range n) (fun y hy => by
      rcases List.mem_cons.1 hy with rfl | h'
      · simpa using hj
      · simpa using h y h')
    rw [List.length_cons, List.length_range] at h1
    omega
end Go.Proofs.YtkngijkhhonikaaDoor

/- What names are: each of n numbers once. Plain mathematics, no condition. -/

namespace Go.Proofs.YtkngijkhhonikaaDoor
open Go Go.RowKit
set_option linter.unusedVariables false

def natOf (P : List Int) : List Nat := P.map Int.toNat
def InN (P : List Int) (n k : Nat) : Prop := 0 ≤ P[k]?.getD 0 ∧ P[k]?.getD 0 < (n : Int)
def IsNames (P : List Int) (n : Nat) : Prop := P.length = n ∧ (∀ k, k < P.length → InN P n k) ∧ (natOf P).Nodup
theorem natOf_take (P : List Int) (k : Nat) (h : k < P.length) : (natOf P).take (k + 1) = (natOf P).take k ++ [(P[k]?.getD 0).toNat] := by
  unfold natOf
  rw [List.take_succ_eq_append_getElem (by simpa using h)]
  simp [h]
theorem natOf_mem {P : List Int} {n k : Nat} (h : ∀ u, u < k → InN P n u) (hk : k ≤ P.length) : ∀ x ∈ (natOf P).take k, x < n := by
  intro x hx
  obtain ⟨i, hi, rfl⟩ := List.mem_iff_getElem.1 hx
  simp [natOf] at hi ⊢
  have := h i (by omega)
  unfold InN at this
  have e : P[i]?.getD 0 = P[i] := by simp [show i < P.length by omega]
  rw [e] at this
  omega
theorem names_tell {P : List Int} {n : Nat} (hin : ∀ u, u < P.length → InN P n u) : (P.length = n ∧ seenOf (natOf P) = 2 ^ n - 1) ↔ IsNames P n := by
  have hm : ∀ x ∈ natOf P, x < n := by
    have := natOf_mem hin (Nat.le_refl _)
    rwa [show P.length = (natOf P).length by simp [natOf], List.take_length] at this
  constructor
  · rintro ⟨h1, h2⟩
    exact ⟨h1, hin, (names_iff _ n (by simpa [natOf] using h1) hm).1 h2⟩
  · rintro ⟨h1, _, h3⟩
    exact ⟨h1, (names_iff _ n (by simpa [natOf] using h1) hm).2 h3⟩

end Go.Proofs.YtkngijkhhonikaaDoor

/- All places of a square, row by row; a name as a natural number. Plain mathematics, no condition. -/

namespace Go.Proofs.YtkngijkhhonikaaDoor
open Go Go.RowKit

def grid (n v : Nat) : List (Nat × Nat) := (List.range v).flatMap fun a => (List.range n).map fun b => (a, b)
def gridTo (n v x : Nat) : List (Nat × Nat) := grid n v ++ (List.range x).map fun b => (v, b)
theorem grid_zero (n : Nat) : grid n 0 = [] := rfl
theorem gridTo_zero (n v : Nat) : gridTo n v 0 = grid n v := by simp [gridTo]
theorem gridTo_succ (n v x : Nat) : gridTo n v (x + 1) = gridTo n v x ++ [(v, x)] := by simp [gridTo, List.range_succ]
theorem gridTo_end (n v : Nat) : gridTo n v n = grid n (v + 1) := by simp [gridTo, grid, List.range_succ]
theorem grid_all (n a b : Nat) : (a, b) ∈ grid n n ↔ a < n ∧ b < n := by
  unfold grid
  simp
theorem gridTo_mem (n v x : Nat) (hv : v < n) (hx : x ≤ n) : ∀ e ∈ gridTo n v x, e.1 < n ∧ e.2 < n := by
  rintro ⟨a, b⟩ h
  unfold gridTo grid at h
  simp at h
  omega

/-- A name. -/
def nm (P : List Int) (v : Nat) : Nat := (P[v]?.getD 0).toNat
theorem nm_int {P : List Int} {n v : Nat} (h : IsNames P n) (hv : v < n) : P[v]?.getD 0 = (nm P v : Int) ∧ nm P v < n := by
  have h1 := h.2.1 v (by rw [h.1]; exact hv)
  unfold InN at h1
  unfold nm
  omega
theorem nm_ne {P : List Int} {n v x : Nat} (h : IsNames P n) (hv : v < n) (hx : x < n) (hne : v ≠ x) : nm P v ≠ nm P x := fun e => by
  have h1 := h.2.2
  have hl : (natOf P).length = n := by simp [natOf, h.1]
  have hv2 : v < P.length := by have := h.1; omega
  have hx2 : x < P.length := by have := h.1; omega
  have g1 : (natOf P)[v]'(by omega) = nm P v := by simp [natOf, nm, hv2]
  have g2 : (natOf P)[x]'(by omega) = nm P x := by simp [natOf, nm, hx2]
  have hp := List.pairwise_iff_getElem.1 h1
  rcases Nat.lt_or_gt_of_ne hne with h | h
  · exact hp v x (by omega) (by omega) h (by rw [g1, g2]; exact e)
  · exact hp x v (by omega) (by omega) h (by rw [g1, g2]; exact e.symm)
theorem mrun_lt (L : List Int) (n : Nat) (p : Nat → Nat) (es : List (Nat × Nat)) (hp : ∀ e ∈ es, p e.2 < 6) : ∀ x ∈ mrun L n p es, x < 2 ^ 6 := by
  induction es using snoc_ind with
  | h0 => intro x hx; simp [mrun] at hx; omega
  | h1 l x ih =>
    rw [mrun_snoc]
    unfold orAt
    have h1 := ih (fun e he => hp e (by simp [he]))
    refine set_lt h1 _ _ (Nat.or_lt_two_pow (get_lt h1 _ (by decide)) ?_)
    exact bit_shift (bt_le _ _ _) (hp x (by simp))
end Go.Proofs.YtkngijkhhonikaaDoor

/- The graph of some nodes: the model's way and the program's make one list. Plain mathematics, no condition. -/

namespace Go.Proofs.YtkngijkhhonikaaDoor
open Go Go.RowKit
set_option linter.unusedVariables false

/-- The node at a place. -/
def at_ (ns : List Nat) (i : Nat) : Nat := ns[i]?.getD 0
theorem at_lt {ns : List Nat} {n : Nat} (h : ∀ x ∈ ns, x < n) {i : Nat} (hi : i < ns.length) : at_ ns i < n := by
  unfold at_
  rw [List.getElem?_eq_getElem hi]
  exact h _ (List.getElem_mem _)
theorem ints_at {ns : List Nat} {i : Nat} (hi : i < ns.length) : (ints ns)[i]?.getD 0 = ((at_ ns i : Nat) : Int) := by rw [ints_get]; rfl
/-- The model's row of a node: the places of its neighbours. -/
def rowTo (L : List Int) (ns : List Nat) (a k : Nat) : Nat := (List.range k).foldl (fun r j => r ||| bt L a (at_ ns j) * 2 ^ j) 0
theorem rowTo_zero (L : List Int) (ns : List Nat) (a : Nat) : rowTo L ns a 0 = 0 := rfl
theorem rowTo_succ (L : List Int) (ns : List Nat) (a k : Nat) : rowTo L ns a (k + 1) = rowTo L ns a k ||| bt L a (at_ ns k) * 2 ^ k := by simp [rowTo, List.range_succ]
theorem rowTo_bit (L : List Int) (ns : List Nat) (a k j : Nat) : (rowTo L ns a k).testBit j = true ↔ j < k ∧ bt L a (at_ ns j) = 1 := by
  induction k with
  | zero => simp [rowTo]
  | succ k ih =>
    rw [rowTo_succ, Nat.testBit_or, Bool.or_eq_true, ih, bit_test _ _ _ (bt_le _ _ _)]
    simp only [Bool.and_eq_true, decide_eq_true_eq]
    constructor
    · rintro (⟨h1, h2⟩ | ⟨h1, h2⟩)
      · exact ⟨by omega, h2⟩
      · subst h2; exact ⟨by omega, h1⟩
    · rintro ⟨h1, h2⟩
      by_cases h : j = k
      · subst h; exact .inr ⟨h2, rfl⟩
      · exact .inl ⟨by omega, h2⟩
theorem rowTo_lt (L : List Int) (ns : List Nat) (a k : Nat) (hk : k ≤ 6) : rowTo L ns a k < 2 ^ 6 := by
  induction k with
  | zero => show 0 < 2 ^ 6; decide
  | succ k ih => rw [rowTo_succ]; exact Nat.or_lt_two_pow (ih (by omega)) (bit_shift (bt_le _ _ _) (by omega))
/-- The model's list, and its first rows. -/
def partTo (L : List Int) (ns : List Nat) (i : Nat) : List Nat := (List.range i).map fun x => rowTo L ns (at_ ns x) ns.length
theorem partTo_zero (L : List Int) (ns : List Nat) : partTo L ns 0 = [] := rfl
theorem partTo_succ (L : List Int) (ns : List Nat) (i : Nat) : partTo L ns (i + 1) = partTo L ns i ++ [rowTo L ns (at_ ns i) ns.length] := by simp [partTo, List.range_succ]
theorem partTo_length (L : List Int) (ns : List Nat) (i : Nat) : (partTo L ns i).length = i := by simp [partTo]
theorem partTo_bit (L : List Int) (ns : List Nat) (i j : Nat) : ((partTo L ns ns.length)[i]?.getD 0).testBit j = true ↔ i < ns.length ∧ j < ns.length ∧ bt L (at_ ns i) (at_ ns j) = 1 := by
  by_cases h : i < ns.length
  · have e : (partTo L ns ns.length)[i]?.getD 0 = rowTo L ns (at_ ns i) ns.length := by simp [partTo, h]
    rw [e, rowTo_bit]
    simp [h]
  · have e : (partTo L ns ns.length)[i]?.getD 0 = 0 := by simp [partTo, h]
    rw [e]
    simp [h]

/-- The program's edges among the nodes kept. -/
def keptIn (L : List Int) (ns : List Nat) (ps : List (Nat × Nat)) : List (Nat × Nat) := ps.filter fun e => bt L (at_ ns e.1) (at_ ns e.2) == 1
theorem keptIn_snoc (L : List Int) (ns : List Nat) (ps : List (Nat × Nat)) (e : Nat × Nat) : keptIn L ns (ps ++ [e]) = keptIn L ns ps ++ (if bt L (at_ ns e.1) (at_ ns e.2) = 1 then [e] else []) := by
  unfold keptIn
  rw [List.filter_append]
  by_cases h : bt L (at_ ns e.1) (at_ ns e.2) = 1 <;> simp [h]
theorem part_eq (L : List Int) (hg : IsGraph L) (ns : List Nat) (hns : ∀ x ∈ ns, x < L.length) : partTo L ns ns.length = lrun ns.length id (keptIn L ns (rows ns.length)) := by
  have hat : ∀ i, i < ns.length → at_ ns i < L.length := fun i hi => by
    unfold at_
    rw [List.getElem?_eq_getElem hi]
    exact hns _ (List.getElem_mem _)
  have sym : ∀ a b, a < L.length → b < L.length → bt L a b = bt L b a := fun a b ha hb => by
    rcases Nat.lt_trichotomy a b with h | h | h
    · exact ((hg.2.2 b hb).2.2 a h).symm
    · rw [h]
    · exact (hg.2.2 a ha).2.2 b h
  refine list_bits (by rw [partTo_length, lrun_length]) fun i j => ?_
  rw [partTo_bit, lrun_bit ns.length id (fun v hv => hv)]
  · constructor
    · rintro ⟨hi, hj, hb⟩
      rcases Nat.lt_trichotomy i j with h | h | h
      · exact ⟨(i, j), by unfold keptIn; rw [List.mem_filter]; exact ⟨(rows_all _ _ _).2 ⟨h, hj⟩, by simpa using hb⟩, .inl ⟨rfl, rfl⟩⟩
      · subst h
        have := (hg.2.2 _ (hat i hi)).2.1
        omega
      · exact ⟨(j, i), by unfold keptIn; rw [List.mem_filter]; exact ⟨(rows_all _ _ _).2 ⟨h, hi⟩, by simpa using (sym _ _ (hat j hj) (hat i hi)).trans hb⟩, .inr ⟨rfl, rfl⟩⟩
    · rintro ⟨⟨a, b⟩, he, h⟩
      unfold keptIn at he
      rw [List.mem_filter] at he
      obtain ⟨he, hb⟩ := he
      obtain ⟨h1, h2⟩ := (rows_all _ _ _).1 he
      have hb1 : bt L (at_ ns a) (at_ ns b) = 1 := by simpa using hb
      rcases h with ⟨hi, hj⟩ | ⟨hi, hj⟩
      · have hi : i = a := hi
        have hj : j = b := hj
        subst hi; subst hj
        exact ⟨by omega, h2, hb1⟩
      · have hi : i = b := hi
        have hj : j = a := hj
        subst hi; subst hj
        exact ⟨h2, by omega, (sym _ _ (hat _ h2) (hat _ (by omega))).trans hb1⟩
  · intro e he
    unfold keptIn at he
    rw [List.mem_filter] at he
    have := rows_mem _ _ he.1
    omega
theorem lrun_lt (n : Nat) (p : Nat → Nat) (es : List (Nat × Nat)) (h : ∀ e ∈ es, p e.1 < 6 ∧ p e.2 < 6) : ∀ x ∈ lrun n p es, x < 2 ^ 6 := by
  induction es using snoc_ind with
  | h0 => intro x hx; simp [lrun] at hx; omega
  | h1 l x ih =>
    rw [lrun_snoc]
    exact lnk_lt (ih (fun e he => h e (by simp [he]))) _ _ _ (h x (by simp)).1 (h x (by simp)).2 (Nat.le_refl 1)
end Go.Proofs.YtkngijkhhonikaaDoor

/- Whether a beginning of names fits two graphs; the names that make one the other one. Plain mathematics. -/



namespace Go.Proofs.YtkngijkhhonikaaDoor
open Go.RowKit
set_option linter.unusedVariables false
set_option maxRecDepth 100000

def okAt (L M : List Int) (P : List Nat) (v : Nat) : Bool := bt L v (P.length - 1) == bt M (at_ P v) (at_ P (P.length - 1))
def fitB (L M : List Int) (P : List Nat) : Bool := (List.range (P.length - 1)).all (okAt L M P)
theorem fit_of {L M : List Int} {P : List Nat} (h : ∀ v, v < P.length - 1 → okAt L M P v = true) : fitB L M P = true := List.all_eq_true.2 fun v hv => h v (List.mem_range.1 hv)
theorem fit_not {L M : List Int} {P : List Nat} {v : Nat} (hv : v < P.length - 1) (h : okAt L M P v = false) : fitB L M P = false := by
  cases e : fitB L M P with
  | false => rfl
  | true =>
    have := List.all_eq_true.1 e v (List.mem_range.2 hv)
    rw [h] at this
    cases this
def likeL (L M : List Int) : List (List Nat) := allNames (fun _ P => fitB L M P) L.length
end Go.Proofs.YtkngijkhhonikaaDoor

/- All names, one node more at a time; those that come to a list by trying. Plain mathematics, no condition. -/


namespace Go.Proofs.YtkngijkhhonikaaDoor
open Go Go.RowKit
set_option linter.unusedVariables false
set_option maxRecDepth 100000

/-- The names that are left. -/
def left (n : Nat) (P : List Nat) : List Nat := (List.range n).filter fun x => !P.contains x
def ext (n : Nat) (P : List Nat) : List (List Nat) := (left n P).map fun v => P ++ [v]
def extK (n : Nat) : Nat → List (List Nat) → List (List Nat)
  | 0, Ls => Ls
  | k + 1, Ls => extK n k (Ls.flatMap (ext n))
def permsTo (n k : Nat) : List (List Nat) := extK n k [[]]
theorem extK_append (n k : Nat) (A B : List (List Nat)) : extK n k (A ++ B) = extK n k A ++ extK n k B := by
  induction k generalizing A B with
  | zero => rfl
  | succ k ih => unfold extK; rw [List.flatMap_append, ih]
theorem extK_nil (n k : Nat) : extK n k [] = [] := by
  induction k with
  | zero => rfl
  | succ k ih => unfold extK; simpa using ih
theorem extK_flat (n k : Nat) (A : List (List Nat)) : extK n k A = A.flatMap fun P => extK n k [P] := by
  induction A with
  | nil => simp [extK_nil]
  | cons P A ih => rw [show P :: A = [P] ++ A from rfl, extK_append, ih]; simp
theorem extK_succ' (n k : Nat) (A : List (List Nat)) : extK n (k + 1) A = (extK n k A).flatMap (ext n) := by
  induction k generalizing A with
  | zero => rfl
  | succ k ih => show extK n (k + 1) (A.flatMap (ext n)) = _; rw [ih]; rfl
theorem permsTo_succ (n k : Nat) : permsTo n (k + 1) = (permsTo n k).flatMap (ext n) := extK_succ' n k _
theorem mem_left {n : Nat} {P : List Nat} {v : Nat} : v ∈ left n P ↔ v < n ∧ v ∉ P := by simp [left]
theorem left_length (n : Nat) (P : List Nat) : (left n P).length ≤ n := by
  have := List.length_filter_le (fun x => !P.contains x) (List.range n)
  simpa [left] using this
/-- What all of them are. -/
def Names (n k : Nat) (P : List Nat) : Prop := P.length = k ∧ P.Nodup ∧ ∀ x ∈ P, x < n
theorem ext_names {n k : Nat} {P Q : List Nat} (h : Names n k P) (hq : Q ∈ ext n P) : Names n (k + 1) Q := by
  unfold ext at hq
  obtain ⟨v, hv, rfl⟩ := List.mem_map.1 hq
  obtain ⟨h1, h2⟩ := mem_left.1 hv
  refine ⟨by simp [h.1], ?_, ?_⟩
  · rw [List.nodup_append]
    exact ⟨h.2.1, by simp, fun a ha b hb e => h2 (by simp at hb; subst hb; subst e; exact ha)⟩
  · intro x hx
    rcases List.mem_append.1 hx with hx | hx
    · exact h.2.2 x hx
    · rw [List.mem_singleton.1 hx]; exact h1
theorem perms_names (n k : Nat) : ∀ P ∈ permsTo n k, Names n k P := by
  induction k with
  | zero => intro P hP; simp [permsTo, extK] at hP; subst hP; exact ⟨rfl, by simp, by simp⟩
  | succ k ih =>
    intro P hP
    rw [permsTo_succ, List.mem_flatMap] at hP
    obtain ⟨R, hR, hP⟩ := hP
    exact ext_names (ih R hR) hP
theorem ext_length (n : Nat) (P : List Nat) : (ext n P).length ≤ n := by unfold ext; rw [List.length_map]; exact left_length n P
theorem flat_length (n : Nat) (A : List (List Nat)) : (A.flatMap (ext n)).length ≤ A.length * n := by
  induction A with
  | nil => simp
  | cons P A ih =>
    rw [List.flatMap_cons, List.length_append, List.length_cons, Nat.succ_mul]
    have := ext_length n P
    omega
theorem perms_length (n k : Nat) (hn : n ≤ 6) (hk : k ≤ 6) : (permsTo n k).length ≤ 46656 := by
  have h : ∀ k, (permsTo n k).length ≤ 6 ^ k := by
    intro k
    induction k with
    | zero => simp [permsTo, extK]
    | succ k ih =>
      rw [permsTo_succ]
      have h1 := flat_length n (permsTo n k)
      have h2 : (permsTo n k).length * n ≤ 6 ^ k * 6 := Nat.mul_le_mul ih hn
      rw [Nat.pow_succ]
      omega
  exact Nat.le_trans (h k) (Nat.pow_le_pow_right (n := 6) (by omega) hk)

/-! ### trying -/
def leaves (f : List Nat → Bool) : Nat → List Nat → Nat → List (List Nat)
  | 0, P, _ => [P]
  | k + 1, P, s => (nodesL s).flatMap fun v => if f (P ++ [v]) = true then leaves f k (P ++ [v]) (less s (2 ^ v)) else []
theorem foldl_flat {α : Type} (g : Nat → List α) (vs : List Nat) (acc : List α) : vs.foldl (fun a v => a ++ g v) acc = acc ++ vs.flatMap g := by
  induction vs generalizing acc with
  | nil => simp
  | cons v vs ih => rw [List.foldl_cons, ih]; simp
theorem dfs_leaves (f : List Nat → Bool) (k : Nat) : ∀ (acc : List (List Nat)) (P : List Nat) (s : Nat), dfs (fun _ P => f P) k acc P s = acc ++ leaves f k P s := by
  induction k with
  | zero => intro acc P s; rfl
  | succ k ih =>
    intro acc P s
    rw [dfs_succ]
    unfold runF leaves
    rw [← foldl_flat]
    congr 1
    funext a v
    unfold stepF
    split
    · exact ih _ _ _
    · simp
/-- All beginnings longer than p fit. -/
def okFrom (f : List Nat → Bool) (p : Nat) (Q : List Nat) : Bool := (List.range Q.length).all fun i => decide (i < p) || f (Q.take (i + 1))
theorem okFrom_iff (f : List Nat → Bool) (p : Nat) (Q : List Nat) : okFrom f p Q = true ↔ ∀ i, p ≤ i → i < Q.length → f (Q.take (i + 1)) = true := by
  unfold okFrom
  rw [List.all_eq_true]
  constructor
  · intro h i h1 h2
    have := h i (List.mem_range.2 h2)
    simpa [show ¬ i < p by omega] using this
  · intro h i hi
    by_cases h1 : i < p
    · simp [h1]
    · simp [h i (by omega) (List.mem_range.1 hi)]
theorem extK_take (n k : Nat) : ∀ (P Q : List Nat), Q ∈ extK n k [P] → Q.take P.length = P ∧ Q.length = P.length + k := by
  induction k with
  | zero => intro P Q h; simp [extK] at h; subst h; simp
  | succ k ih =>
    intro P Q h
    unfold extK at h
    rw [extK_flat, List.mem_flatMap] at h
    obtain ⟨R, hR, hQ⟩ := h
    simp at hR
    unfold ext at hR
    obtain ⟨v, _, rfl⟩ := List.mem_map.1 hR
    obtain ⟨h1, h2⟩ := ih _ _ hQ
    rw [List.length_append, List.length_singleton] at h1 h2
    refine ⟨?_, by omega⟩
    have h3 := congrArg (List.take P.length) h1
    rw [List.take_take] at h3
    simpa [Nat.min_eq_left (Nat.le_succ P.length)] using h3
/-- A set is the names that are left. -/
def Comp (n : Nat) (P : List Nat) (s : Nat) : Prop := nodesL s = left n P
theorem comp_next : ∀ {n : Nat} {P : List Nat} {s v : Nat}, s < 64 → Comp n P s → v ∈ nodesL s → Comp n (P ++ [v]) (less s (2 ^ v)) := by
  intro n P s v hs h hv
  have h1 := nodes_mem.1 hv
  have h2 := (less_bit ⟨s, hs⟩ ⟨v, h1.1⟩).2 h1.2
  dsimp only at h2
  unfold Comp at h ⊢
  rw [h2.1, h]
  unfold left
  rw [List.filter_filter]
  refine List.filter_congr fun x hx => ?_
  by_cases h3 : x = v
  · subst h3; simp
  · simp [h3]
theorem flat_congr {α β : Type} {l : List α} {f g : α → List β} (h : ∀ a ∈ l, f a = g a) : l.flatMap f = l.flatMap g := by
  induction l with
  | nil => rfl
  | cons a l ih => rw [List.flatMap_cons, List.flatMap_cons, h a (by simp), ih fun b hb => h b (by simp [hb])]
theorem leaves_filter (f : List Nat → Bool) (n k : Nat) : ∀ (P : List Nat) (s : Nat), s < 64 → Comp n P s → leaves f k P s = (extK n k [P]).filter (okFrom f P.length) := by
  induction k with
  | zero =>
    intro P s hs h
    have e : okFrom f P.length P = true := (okFrom_iff _ _ _).2 (fun i h1 h2 => absurd h2 (by omega))
    simp [leaves, extK, e]
  | succ k ih =>
    intro P s hs h
    unfold leaves extK
    rw [extK_flat, show [P].flatMap (ext n) = ext n P by simp, List.filter_flatMap, h]
    unfold ext
    rw [List.flatMap_map]
    refine flat_congr fun v hv => ?_
    have hvs : v ∈ nodesL s := by rw [h]; exact hv
    have hc := comp_next hs h hvs
    have hl : less s (2 ^ v) < 64 := (less_bit ⟨s, hs⟩ ⟨v, (nodes_mem.1 hvs).1⟩).1
    rw [ih _ _ hl hc]
    have hlen : (P ++ [v]).length = P.length + 1 := by simp
    by_cases hf : f (P ++ [v]) = true
    · rw [if_pos hf]
      refine List.filter_congr fun Q hQ => ?_
      obtain ⟨h1, h2⟩ := extK_take n k _ _ hQ
      rw [Bool.eq_iff_iff, okFrom_iff, okFrom_iff, hlen]
      constructor
      · intro h3 i h4 h5
        by_cases h6 : i = P.length
        · subst h6; rw [← hlen, h1]; exact hf
        · exact h3 i (by omega) h5
      · intro h3 i h4 h5
        exact h3 i (by omega) h5
    · rw [if_neg hf]
      symm
      rw [List.filter_eq_nil_iff]
      intro Q hQ
      obtain ⟨h1, h2⟩ := extK_take n k _ _ hQ
      rw [okFrom_iff]
      intro h3
      have := h3 P.length (Nat.le_refl _) (by rw [h2, hlen]; omega)
      rw [← hlen, h1] at this
      exact hf this
theorem full_comp : ∀ n : Fin 7, nodesL (2 ^ n.val - 1) = List.range n.val := by decide
theorem likeL_eq (L M : List Int) (h6 : L.length ≤ 6) : likeL L M = (permsTo L.length L.length).filter (okFrom (fitB L M) 0) := by
  unfold likeL allNames
  rw [dfs_leaves (fitB L M), List.nil_append]
  have h1 := full_comp ⟨L.length, by omega⟩
  dsimp only at h1
  exact leaves_filter (fitB L M) L.length L.length [] _ (by have := two_le h6; have := two_pos L.length; omega) (by unfold Comp left; rw [h1]; exact (List.filter_eq_self.2 (by simp)).symm)
end Go.Proofs.YtkngijkhhonikaaDoor

/- When names make one graph another one: by codes, and by trying. Plain mathematics, no condition. -/






namespace Go.Proofs.YtkngijkhhonikaaDoor
open Go Go.RowKit
set_option linter.unusedVariables false
set_option maxRecDepth 100000

/-- The graph with its nodes named. -/
def namedL (L : List Int) (P : List Nat) : List Int := ints (mrun L L.length (nm (ints P)) (grid L.length L.length))
theorem nm_ints (P : List Nat) (v : Nat) : nm (ints P) v = at_ P v := by
  unfold nm at_
  rw [ints_get]
  rfl
theorem names_is {n : Nat} {P : List Nat} (h : Names n n P) : IsNames (ints P) n := by
  have hnat : natOf (ints P) = P := by
    unfold natOf ints
    rw [List.map_map]
    exact (List.map_congr_left (fun x _ => by simp)).trans (List.map_id P)
  refine ⟨by rw [ints_length]; exact h.1, fun k hk => ?_, by rw [hnat]; exact h.2.1⟩
  rw [ints_length] at hk
  unfold InN
  rw [ints_at hk]
  have := at_lt h.2.2 hk
  omega
theorem at_inj {n : Nat} {P : List Nat} (h : Names n n P) {a b : Nat} (ha : a < n) (hb : b < n) (e : at_ P a = at_ P b) : a = b := by
  refine Classical.byContradiction fun hne => ?_
  have := nm_ne (names_is h) ha hb hne
  rw [nm_ints, nm_ints] at this
  exact this e
theorem at_surj {n : Nat} {P : List Nat} (h : Names n n P) {j : Nat} (hj : j < n) : ∃ a, a < n ∧ at_ P a = j := by
  have h1 : seenOf P = 2 ^ n - 1 := (names_iff P n h.1 h.2.2).2 h.2.1
  have h2 := (seenOf_full P n h.2.2).1 h1 j hj
  obtain ⟨a, ha, e⟩ := List.mem_iff_getElem.1 h2
  refine ⟨a, by rw [← h.1]; exact ha, ?_⟩
  unfold at_
  rw [List.getElem?_eq_getElem ha]
  exact e
theorem bt_ints (g : List Nat) (i j : Nat) : bt (ints g) i j = 1 ↔ (g[i]?.getD 0).testBit j = true := by
  unfold bt ent
  rw [ints_get, Int.toNat_natCast, Nat.testBit_eq_decide_div_mod_eq, decide_eq_true_eq]
theorem named_bt {L : List Int} {P : List Nat} (h : Names L.length L.length P) (i j : Nat) : bt (namedL L P) i j = 1 ↔ ∃ a b, a < L.length ∧ b < L.length ∧ bt L a b = 1 ∧ i = at_ P a ∧ j = at_ P b := by
  unfold namedL
  rw [bt_ints, mrun_bit L L.length (nm (ints P)) (fun v hv => (nm_int (names_is h) hv).2) _ (fun e he => by obtain ⟨a, b⟩ := e; exact ((grid_all _ _ _).1 he).1)]
  constructor
  · rintro ⟨⟨a, b⟩, he, h1, h2, h3⟩
    obtain ⟨ha, hb⟩ := (grid_all _ _ _).1 he
    exact ⟨a, b, ha, hb, h1, by rw [← nm_ints]; exact h2, by rw [← nm_ints]; exact h3⟩
  · rintro ⟨a, b, ha, hb, h1, h2, h3⟩
    exact ⟨(a, b), (grid_all _ _ _).2 ⟨ha, hb⟩, h1, by rw [nm_ints]; exact h2, by rw [nm_ints]; exact h3⟩
theorem bt_eq {L M : List Int} {a b c d : Nat} (h : bt L a b = 1 ↔ bt M c d = 1) : bt L a b = bt M c d := by
  have h1 := bt_le L a b
  have h2 := bt_le M c d
  by_cases h3 : bt L a b = 1
  · rw [h3, h.1 h3]
  · have h4 : ¬ bt M c d = 1 := fun e => h3 (h.2 e)
    omega
theorem named_at {L : List Int} {P : List Nat} (h : Names L.length L.length P) {a b : Nat} (ha : a < L.length) (hb : b < L.length) : bt (namedL L P) (at_ P a) (at_ P b) = bt L a b := by
  refine bt_eq ?_
  rw [named_bt h]
  constructor
  · rintro ⟨c, d, hc, hd, h1, h2, h3⟩
    rw [at_inj h ha hc h2, at_inj h hb hd h3]
    exact h1
  · intro h1
    exact ⟨a, b, ha, hb, h1, rfl, rfl⟩
theorem bt_sym {L : List Int} (hg : IsGraph L) {a b : Nat} (ha : a < L.length) (hb : b < L.length) : bt L a b = bt L b a := by
  rcases Nat.lt_trichotomy a b with h | h | h
  · exact ((hg.2.2 b hb).2.2 a h).symm
  · rw [h]
  · exact (hg.2.2 a ha).2.2 b h
theorem namedL_length (L : List Int) (P : List Nat) : (namedL L P).length = L.length := by unfold namedL; rw [ints_length, mrun_length]
theorem named_graph {L : List Int} (hg : IsGraph L) {P : List Nat} (h : Names L.length L.length P) : IsGraph (namedL L P) := by
  have hl := namedL_length L P
  refine ⟨by rw [hl]; exact hg.1, by rw [hl]; exact hg.2.1, fun v hv => ?_⟩
  rw [hl] at hv
  refine ⟨?_, ?_, fun w hw => ?_⟩
  · unfold InR
    rw [hl]
    unfold namedL
    rw [ints_get]
    refine ⟨by omega, ?_⟩
    have h1 : (mrun L L.length (nm (ints P)) (grid L.length L.length))[v]?.getD 0 < 2 ^ L.length := by
      refine Nat.lt_pow_two_of_testBit _ fun j hj => ?_
      cases e : ((mrun L L.length (nm (ints P)) (grid L.length L.length))[v]?.getD 0).testBit j with
      | false => rfl
      | true =>
        have h2 := (named_bt h v j).1 ((bt_ints _ _ _).2 e)
        obtain ⟨a, b, ha, hb, _, _, h3⟩ := h2
        have := at_lt h.2.2 (show b < P.length by rw [h.1]; exact hb)
        omega
    omega
  · have h1 := bt_le (namedL L P) v v
    refine Nat.le_antisymm ?_ (Nat.zero_le _)
    refine Nat.le_of_not_lt fun h2 => ?_
    have h3 : bt (namedL L P) v v = 1 := by omega
    obtain ⟨a, b, ha, hb, h4, h5, h6⟩ := (named_bt h v v).1 h3
    have h7 := at_inj h ha hb (h5.symm.trans h6)
    subst h7
    have := (hg.2.2 a ha).2.1
    omega
  · refine bt_eq ?_
    rw [named_bt h, named_bt h]
    constructor
    · rintro ⟨a, b, ha, hb, h1, h2, h3⟩
      exact ⟨b, a, hb, ha, (bt_sym hg hb ha).trans h1, h3, h2⟩
    · rintro ⟨a, b, ha, hb, h1, h2, h3⟩
      exact ⟨b, a, hb, ha, (bt_sym hg hb ha).trans h1, h3, h2⟩

/-! ### codes -/
theorem crun_bit (L : List Int) (ps : List (Nat × Nat)) (k : Nat) (hk : k < ps.length) : (crun L ps).1.testBit k = true ↔ bt L (ps[k]).1 (ps[k]).2 = 1 := by
  induction ps using snoc_ind with
  | h0 => simp at hk
  | h1 l x ih =>
    rw [crun_snoc]
    unfold cstep
    dsimp only
    rw [Nat.testBit_or, crun_at, Bool.or_eq_true, bit_test _ _ _ (bt_le _ _ _)]
    simp only [Bool.and_eq_true, decide_eq_true_eq]
    rw [List.length_append, List.length_singleton] at hk
    by_cases h : k < l.length
    · rw [List.getElem_append_left h, ih h]
      constructor
      · rintro (h1 | ⟨_, h1⟩)
        · exact h1
        · omega
      · exact .inl
    · have hkl : k = l.length := by omega
      subst hkl
      rw [List.getElem_append_right (Nat.le_refl _)]
      have h1 := crun_lt L l
      have h2 : (crun L l).1.testBit l.length = false := Nat.testBit_lt_two_pow h1
      rw [h2]
      simp
theorem graph_ext {A B : List Int} (hA : IsGraph A) (hB : IsGraph B) (hl : A.length = B.length) (h : ∀ i j, i < A.length → j < A.length → bt A i j = bt B i j) : A = B := by
  refine List.ext_getElem hl fun i h1 h2 => ?_
  have a1 := (hA.2.2 i h1).1
  have b1 := (hB.2.2 i h2).1
  have e : ent A i = ent B i := by
    refine Nat.eq_of_testBit_eq fun j => ?_
    by_cases hj : j < A.length
    · have h3 := h i j h1 hj
      unfold bt at h3
      rw [Nat.testBit_eq_decide_div_mod_eq, Nat.testBit_eq_decide_div_mod_eq, h3]
    · have h4 := ent_lt a1
      have h5 := ent_lt b1
      rw [← hl] at h5
      rw [Nat.testBit_lt_two_pow (Nat.lt_of_lt_of_le h4 (pow_le _ _ (by omega))), Nat.testBit_lt_two_pow (Nat.lt_of_lt_of_le h5 (pow_le _ _ (by omega)))]
  have h6 := ent_int a1
  have h7 := ent_int b1
  rw [List.getElem?_eq_getElem h1] at h6
  rw [List.getElem?_eq_getElem h2] at h7
  simp only [Option.getD_some] at h6 h7
  rw [h6, h7, e]
theorem code_inj {A B : List Int} (hA : IsGraph A) (hB : IsGraph B) (hl : A.length = B.length) (h : codeOf A = codeOf B) : A = B := by
  have hp : ∀ a b, a < b → b < A.length → bt A a b = bt B a b := fun a b hab hb => by
    obtain ⟨k, hk, e⟩ := List.mem_iff_getElem.1 ((rows_all A.length a b).2 ⟨hab, hb⟩)
    have h1 := crun_bit A (rows A.length) k hk
    have h2 := crun_bit B (rows A.length) k hk
    rw [e] at h1 h2
    refine bt_eq (h1.symm.trans (Iff.trans ?_ h2))
    unfold codeOf at h
    rw [← hl] at h
    rw [h]
  refine graph_ext hA hB hl fun i j hi hj => ?_
  rcases Nat.lt_trichotomy i j with h1 | h1 | h1
  · exact hp i j h1 hj
  · subst h1
    rw [(hA.2.2 i hi).2.1, (hB.2.2 i (by omega)).2.1]
  · rw [bt_sym hA hi hj, bt_sym hB (by omega) (by omega)]
    exact hp j i h1 hi
theorem take_at {P : List Nat} {i v : Nat} (h : v < i) : at_ (P.take i) v = at_ P v := by
  unfold at_
  rw [List.getElem?_take_of_lt h]
/-- **By codes and by trying.** -/
theorem ok_iff {L M : List Int} (hL : IsGraph L) (hM : IsGraph M) (hl : L.length = M.length) {P : List Nat} (h : Names L.length L.length P) : okFrom (fitB L M) 0 P = true ↔ codeOf (namedL L P) = codeOf M := by
  rw [okFrom_iff]
  constructor
  · intro hok
    have h1 : ∀ v i, v < i → i < L.length → bt L v i = bt M (at_ P v) (at_ P i) := fun v i hvi hi => by
      have h2 := hok i (Nat.zero_le _) (by rw [h.1]; exact hi)
      unfold fitB at h2
      have hlen : (P.take (i + 1)).length - 1 = i := by rw [List.length_take, h.1]; omega
      rw [hlen] at h2
      have h3 := List.all_eq_true.1 h2 v (List.mem_range.2 hvi)
      unfold okAt at h3
      rw [hlen, take_at (by omega), take_at (by omega)] at h3
      simpa using h3
    have h2 : namedL L P = M := by
      refine graph_ext (named_graph hL h) hM (by rw [namedL_length, hl]) fun i j hi hj => ?_
      rw [namedL_length] at hi hj
      obtain ⟨a, ha, rfl⟩ := at_surj h hi
      obtain ⟨b, hb, rfl⟩ := at_surj h hj
      rw [named_at h ha hb]
      rcases Nat.lt_trichotomy a b with h3 | h3 | h3
      · exact h1 a b h3 hb
      · subst h3
        rw [(hL.2.2 a ha).2.1, (hM.2.2 _ (by omega)).2.1]
      · rw [bt_sym hL ha hb, bt_sym hM (by omega) (by omega)]
        exact h1 b a h3 ha
    rw [h2]
  · intro hc i _ hi
    rw [h.1] at hi
    have h2 := code_inj (named_graph hL h) hM (by rw [namedL_length, hl]) hc
    unfold fitB
    have hlen : (P.take (i + 1)).length - 1 = i := by rw [List.length_take, h.1]; omega
    rw [hlen, List.all_eq_true]
    intro v hv
    have hv := List.mem_range.1 hv
    unfold okAt
    rw [hlen, take_at (by omega), take_at (by omega), ← h2, named_at h (by omega) hi]
    simp
end Go.Proofs.YtkngijkhhonikaaDoor

/- Names that fit, by codes. Plain mathematics, no condition. -/



namespace Go.Proofs.YtkngijkhhonikaaDoor
open Go Go.RowKit
set_option linter.unusedVariables false
set_option maxRecDepth 100000

theorem empty_list (w : World) : Row (w.alloc (.cells #[] 3)) w.heap.size (.slice (some ⟨w.heap.size, 0, none⟩) 0 0) [] :=
  World.ownsRow_lit (base := w.heap.size) (e := 3) (size := 1) w #[] 0 (Nat.le_refl _) (by unfold maxLen; omega) rfl
def okC (L M : List Int) (P : List Nat) : Bool := codeOf (namedL L P) == codeOf M
theorem likeL_codes {L M : List Int} (hL : IsGraph L) (hM : IsGraph M) (hl : L.length = M.length) : likeL L M = (permsTo L.length L.length).filter (okC L M) := by
  rw [likeL_eq L M hL.2.1]
  refine List.filter_congr fun P hP => ?_
  have h := ok_iff hL hM hl (perms_names _ _ P hP)
  unfold okC
  rw [Bool.eq_iff_iff, h]
  simp
theorem filter_first {p : List Nat → Bool} {R : List (List Nat)} {k : Nat} (hk : k < R.length) (h0 : ∀ j, j < k → p (R[j]?.getD []) = false) (h1 : p (R[k]?.getD []) = true) : ∃ t, R.filter p = (R[k]?.getD []) :: t := by
  induction R generalizing k with
  | nil => simp at hk
  | cons x R ih =>
    cases k with
    | zero =>
      have hx : p x = true := by simpa using h1
      exact ⟨R.filter p, by simp [hx]⟩
    | succ k =>
      have hx : p x = false := by simpa using h0 0 (by omega)
      obtain ⟨t, ht⟩ := ih (k := k) (by simpa using hk) (fun j hj => by simpa using h0 (j + 1) (by omega)) (by simpa using h1)
      exact ⟨t, by simpa [List.filter_cons, hx] using ht⟩
theorem filter_none {p : List Nat → Bool} {R : List (List Nat)} (h0 : ∀ j, j < R.length → p (R[j]?.getD []) = false) : R.filter p = [] := by
  rw [List.filter_eq_nil_iff]
  intro a ha
  obtain ⟨j, hj, rfl⟩ := List.mem_iff_getElem.1 ha
  have := h0 j hj
  simp [hj] at this
  simp [this]

end Go.Proofs.YtkngijkhhonikaaDoor

/- Names one behind another, and back; alike graphs have one least code and as many edges. Plain mathematics, no condition. -/


namespace Go.Proofs.YtkngijkhhonikaaDoor
open Go Go.RowKit
set_option linter.unusedVariables false
set_option maxRecDepth 100000

theorem range_perms (n : Nat) : ∀ k, k ≤ n → List.range k ∈ permsTo n k
  | 0, _ => by simp [permsTo, extK]
  | k + 1, h => by
    rw [permsTo_succ]
    refine List.mem_flatMap.2 ⟨List.range k, range_perms n k (by omega), ?_⟩
    unfold ext
    exact List.mem_map.2 ⟨k, mem_left.2 ⟨by omega, by simp⟩, List.range_succ.symm⟩
theorem at_range {n i v : Nat} (hv : v < i) (hi : i ≤ n) : at_ ((List.range n).take i) v = v := by
  rw [take_at hv]
  unfold at_
  simp [show v < n by omega]
theorem id_okC {L : List Int} (hL : IsGraph L) : okC L L (List.range L.length) = true := by
  have hp := range_perms L.length L.length (Nat.le_refl _)
  have hn := perms_names _ _ _ hp
  unfold okC
  rw [beq_iff_eq]
  refine (ok_iff hL hL rfl hn).1 ?_
  rw [okFrom_iff]
  intro i _ hi
  rw [List.length_range] at hi
  have hl : ((List.range L.length).take (i + 1)).length = i + 1 := by rw [List.length_take, List.length_range]; omega
  unfold fitB
  rw [List.all_eq_true]
  intro v hv
  rw [List.mem_range, hl] at hv
  unfold okAt
  rw [hl, at_range (by omega) (by omega), at_range (by omega) (by omega)]
  simp

theorem perms_all (n : Nat) : ∀ (k : Nat) (P : List Nat), Names n k P → P ∈ permsTo n k
  | 0, P, h => by
    have e : P = [] := List.eq_nil_of_length_eq_zero h.1
    subst e
    simp [permsTo, extK]
  | k + 1, P, h => by
    have hk : k < P.length := by rw [h.1]; omega
    have e : P = P.take k ++ [P[k]] := by rw [← List.take_succ_eq_append_getElem hk, ← h.1, List.take_length]
    have hnd := h.2.1
    rw [e, List.nodup_append] at hnd
    have ht : Names n k (P.take k) := ⟨by rw [List.length_take, h.1]; omega, hnd.1, fun x hx => h.2.2 x (List.mem_of_mem_take hx)⟩
    rw [permsTo_succ]
    refine List.mem_flatMap.2 ⟨P.take k, perms_all n k _ ht, ?_⟩
    unfold ext
    refine List.mem_map.2 ⟨P[k], mem_left.2 ⟨h.2.2 _ (List.getElem_mem _), fun hm => hnd.2.2 _ hm _ (by simp) rfl⟩, e.symm⟩

theorem map_range_at (n : Nat) (f : Nat → Nat) {v : Nat} (hv : v < n) : at_ ((List.range n).map f) v = f v := by
  unfold at_
  simp [hv]
theorem map_range_names {n : Nat} {f : Nat → Nat} (h : ∀ v, v < n → f v < n) (hi : ∀ a b, a < n → b < n → f a = f b → a = b) : Names n n ((List.range n).map f) := by
  refine ⟨by simp, ?_, fun x hx => ?_⟩
  · unfold List.Nodup
    rw [List.pairwise_map]
    exact List.Pairwise.imp_of_mem (fun {a b} ha hb hne he => hne (hi a b (List.mem_range.1 ha) (List.mem_range.1 hb) he)) List.nodup_range
  · obtain ⟨v, hv, rfl⟩ := List.mem_map.1 hx
    exact h v (List.mem_range.1 hv)
theorem at_name {n : Nat} {P : List Nat} (h : Names n n P) {v : Nat} (hv : v < n) : at_ P v < n := at_lt h.2.2 (by rw [h.1]; exact hv)

def compP (n : Nat) (P Q : List Nat) : List Nat := (List.range n).map fun v => at_ Q (at_ P v)
theorem comp_names {n : Nat} {P Q : List Nat} (hP : Names n n P) (hQ : Names n n Q) : Names n n (compP n P Q) :=
  map_range_names (fun v hv => at_name hQ (at_name hP hv)) (fun a b ha hb e => at_inj hP ha hb (at_inj hQ (at_name hP ha) (at_name hP hb) e))
def invF (n : Nat) (P : List Nat) (j : Nat) : Nat := ((List.range n).find? fun a => at_ P a == j).getD 0
theorem invF_spec {n : Nat} {P : List Nat} (hP : Names n n P) {j : Nat} (hj : j < n) : invF n P j < n ∧ at_ P (invF n P j) = j := by
  obtain ⟨a, ha, e⟩ := at_surj hP hj
  unfold invF
  cases h : (List.range n).find? fun a => at_ P a == j with
  | none =>
    have h1 := List.find?_eq_none.1 h a (List.mem_range.2 ha)
    simp [e] at h1
  | some b =>
    have h1 := List.find?_some h
    have h2 := List.mem_of_find?_eq_some h
    exact ⟨List.mem_range.1 h2, by simpa using h1⟩
def invP (n : Nat) (P : List Nat) : List Nat := (List.range n).map (invF n P)
theorem inv_names {n : Nat} {P : List Nat} (hP : Names n n P) : Names n n (invP n P) :=
  map_range_names (fun v hv => (invF_spec hP hv).1) (fun a b ha hb e => by rw [← (invF_spec hP ha).2, ← (invF_spec hP hb).2, e])

theorem named_comp {L : List Int} (hL : IsGraph L) {P Q : List Nat} (hP : Names L.length L.length P) (hQ : Names L.length L.length Q) : namedL (namedL L P) Q = namedL L (compP L.length P Q) := by
  have hl := namedL_length L P
  have hC := comp_names hP hQ
  have hQ' : Names (namedL L P).length (namedL L P).length Q := by rw [hl]; exact hQ
  refine graph_ext (named_graph (named_graph hL hP) hQ') (named_graph hL hC) (by rw [namedL_length, namedL_length, namedL_length]) fun i j hi hj => ?_
  rw [namedL_length, hl] at hi hj
  obtain ⟨a, ha, ea⟩ := at_surj hC hi
  obtain ⟨b, hb, eb⟩ := at_surj hC hj
  have e1 : i = at_ Q (at_ P a) := by rw [← ea]; unfold compP; rw [map_range_at _ _ ha]
  have e2 : j = at_ Q (at_ P b) := by rw [← eb]; unfold compP; rw [map_range_at _ _ hb]
  have h1 : bt (namedL L (compP L.length P Q)) i j = bt L a b := by rw [← ea, ← eb]; exact named_at hC ha hb
  rw [h1, e1, e2, named_at hQ' (by rw [hl]; exact at_name hP ha) (by rw [hl]; exact at_name hP hb), named_at hP ha hb]
theorem named_inv {L : List Int} (hL : IsGraph L) {P : List Nat} (hP : Names L.length L.length P) : namedL (namedL L P) (invP L.length P) = L := by
  have hl := namedL_length L P
  have hI := inv_names hP
  have hI' : Names (namedL L P).length (namedL L P).length (invP L.length P) := by rw [hl]; exact hI
  have hat : ∀ i, i < L.length → at_ (invP L.length P) (at_ P i) = i := fun i hi => by
    unfold invP
    rw [map_range_at _ _ (at_name hP hi)]
    have h1 := invF_spec hP (at_name hP hi)
    exact at_inj hP h1.1 hi h1.2
  refine graph_ext (named_graph (named_graph hL hP) hI') hL (by rw [namedL_length, hl]) fun i j hi hj => ?_
  rw [namedL_length, hl] at hi hj
  have h1 := named_at hI' (L := namedL L P) (a := at_ P i) (b := at_ P j) (by rw [hl]; exact at_name hP hi) (by rw [hl]; exact at_name hP hj)
  rw [hat i hi, hat j hj] at h1
  rw [h1, named_at hP hi hj]
theorem named_id {L : List Int} (hL : IsGraph L) : namedL L (List.range L.length) = L := by
  have h := id_okC hL
  unfold okC at h
  rw [beq_iff_eq] at h
  exact code_inj (named_graph hL (perms_names _ _ _ (range_perms _ _ (Nat.le_refl _)))) hL (namedL_length _ _) h

/-! ### edges -/
theorem count_le {α : Type} [DecidableEq α] (p : α → Bool) : ∀ (l1 l2 : List α), l1.Nodup → (∀ x ∈ l1, x ∈ l2) → (l1.filter p).length ≤ (l2.filter p).length
  | [], _, _, _ => by simp
  | x :: l1, l2, hn, hs => by
    have hx := hs x List.mem_cons_self
    have hn' := List.nodup_cons.1 hn
    have ih := count_le p l1 (l2.erase x) hn'.2 (fun y hy => (List.mem_erase_of_ne (fun e => hn'.1 (by rw [← e]; exact hy))).2 (hs y (List.mem_cons_of_mem _ hy)))
    have hp := ((List.perm_cons_erase hx).filter p).length_eq
    rw [hp, List.filter_cons, List.filter_cons]
    by_cases h : p x = true
    · rw [if_pos h, if_pos h]; simp; omega
    · rw [if_neg h, if_neg h]; exact ih
theorem rows_nodup : ∀ n : Fin 7, (rows n.val).Nodup := by decide
theorem edges_in {L : List Int} (h6 : L.length ≤ 6) : edgesN L = (edgesIn L (rows L.length)).length := pc_crun L _ (rows_length L.length h6)
def pairUp (P : List Nat) (x : Nat × Nat) : Nat × Nat := (min (at_ P x.1) (at_ P x.2), max (at_ P x.1) (at_ P x.2))
set_option maxHeartbeats 2000000 in
theorem edges_le {L : List Int} (hL : IsGraph L) {P : List Nat} (hP : Names L.length L.length P) : edgesN L ≤ edgesN (namedL L P) := by
  have h6 := hL.2.1
  have hl := namedL_length L P
  have hN := named_graph hL hP
  rw [edges_in h6, edges_in (L := namedL L P) (by rw [hl]; exact h6), hl]
  unfold edgesIn
  have hmem : ∀ x ∈ rows L.length, x.1 < x.2 ∧ x.2 < L.length := fun x hx => (rows_all L.length x.1 x.2).1 hx
  have hnd : ((rows L.length).map (pairUp P)).Nodup := by
    unfold List.Nodup
    rw [List.pairwise_map]
    refine List.Pairwise.imp_of_mem (fun {x y} hx hy hne he => hne ?_) (rows_nodup ⟨L.length, by omega⟩)
    obtain ⟨x1, x2⟩ := hmem x hx
    obtain ⟨y1, y2⟩ := hmem y hy
    unfold pairUp at he
    injection he with e1 e2
    have n1 : at_ P x.1 ≠ at_ P x.2 := fun e => by have := at_inj hP (by omega) (by omega) e; omega
    have n2 : at_ P y.1 ≠ at_ P y.2 := fun e => by have := at_inj hP (by omega) (by omega) e; omega
    have h3 : (at_ P x.1 = at_ P y.1 ∧ at_ P x.2 = at_ P y.2) ∨ (at_ P x.1 = at_ P y.2 ∧ at_ P x.2 = at_ P y.1) := by omega
    rcases h3 with ⟨h3, h4⟩ | ⟨h3, h4⟩
    · exact Prod.ext (at_inj hP (by omega) (by omega) h3) (at_inj hP (by omega) (by omega) h4)
    · have := at_inj hP (by omega) (by omega) h3
      have := at_inj hP (by omega) (by omega) h4
      omega
  have hsub : ∀ x ∈ (rows L.length).map (pairUp P), x ∈ rows L.length := fun x hx => by
    obtain ⟨y, hy, rfl⟩ := List.mem_map.1 hx
    obtain ⟨y1, y2⟩ := hmem y hy
    have n2 : at_ P y.1 ≠ at_ P y.2 := fun e => by have := at_inj hP (by omega) (by omega) e; omega
    have m1 := at_name hP (show y.1 < L.length by omega)
    have m2 := at_name hP (show y.2 < L.length by omega)
    refine (rows_all L.length _ _).2 ⟨?_, ?_⟩
    · show min (at_ P y.1) (at_ P y.2) < max (at_ P y.1) (at_ P y.2); omega
    · show max (at_ P y.1) (at_ P y.2) < L.length; omega
  refine Nat.le_trans (Nat.le_of_eq ?_) (count_le (fun p => bt (namedL L P) p.1 p.2 == 1) _ _ hnd hsub)
  rw [List.filter_map, List.length_map]
  congr 1
  refine List.filter_congr fun x hx => ?_
  obtain ⟨x1, x2⟩ := hmem x hx
  have m1 := at_name hP (show x.1 < L.length by omega)
  have m2 := at_name hP (show x.2 < L.length by omega)
  have h := named_at hP (show x.1 < L.length by omega) (show x.2 < L.length by omega)
  show (bt L x.1 x.2 == 1) = (bt (namedL L P) (min (at_ P x.1) (at_ P x.2)) (max (at_ P x.1) (at_ P x.2)) == 1)
  rcases Nat.le_total (at_ P x.1) (at_ P x.2) with h1 | h1
  · rw [Nat.min_eq_left h1, Nat.max_eq_right h1, h]
  · rw [Nat.min_eq_right h1, Nat.max_eq_left h1, bt_sym hN (by rw [hl]; exact m2) (by rw [hl]; exact m1), h]
theorem edges_named {L : List Int} (hL : IsGraph L) {P : List Nat} (hP : Names L.length L.length P) : edgesN (namedL L P) = edgesN L := by
  have hl := namedL_length L P
  have h1 := edges_le hL hP
  have h2 := edges_le (named_graph hL hP) (P := invP L.length P) (by rw [hl]; exact inv_names hP)
  rw [named_inv hL hP] at h2
  omega

/-! ### the least code -/
def minTo (L : List Int) (R : List (List Nat)) : Nat := R.foldl (fun b P => min b (codeOf (namedL L P))) (codeOf L)
theorem minTo_nil (L : List Int) : minTo L [] = codeOf L := rfl
theorem minTo_snoc (L : List Int) (R : List (List Nat)) (P : List Nat) : minTo L (R ++ [P]) = min (minTo L R) (codeOf (namedL L P)) := by simp [minTo]
theorem minTo_le (L : List Int) (R : List (List Nat)) : ∀ P ∈ R, minTo L R ≤ codeOf (namedL L P) := by
  induction R using snoc_ind with
  | h0 => intro P hP; cases hP
  | h1 l x ih =>
    intro P hP
    rw [minTo_snoc]
    rcases List.mem_append.1 hP with h | h
    · exact Nat.le_trans (Nat.min_le_left _ _) (ih P h)
    · rw [List.mem_singleton.1 h]; exact Nat.min_le_right _ _
theorem minTo_is (L : List Int) (R : List (List Nat)) : minTo L R = codeOf L ∨ ∃ P ∈ R, minTo L R = codeOf (namedL L P) := by
  induction R using snoc_ind with
  | h0 => exact .inl rfl
  | h1 l x ih =>
    rw [minTo_snoc]
    rcases Nat.le_total (minTo L l) (codeOf (namedL L x)) with h | h
    · rw [Nat.min_eq_left h]
      rcases ih with e | ⟨P, hP, e⟩
      · exact .inl e
      · exact .inr ⟨P, by simp [hP], e⟩
    · rw [Nat.min_eq_right h]
      exact .inr ⟨x, by simp, rfl⟩
def leastL (L : List Int) : Nat := minTo L (permsTo L.length L.length)
theorem least_le {L : List Int} {P : List Nat} (hP : Names L.length L.length P) : leastL L ≤ codeOf (namedL L P) := minTo_le L _ P (perms_all _ _ P hP)
theorem least_is {L : List Int} (hL : IsGraph L) : ∃ P, Names L.length L.length P ∧ leastL L = codeOf (namedL L P) := by
  rcases minTo_is L (permsTo L.length L.length) with e | ⟨P, hP, e⟩
  · exact ⟨_, perms_names _ _ _ (range_perms _ _ (Nat.le_refl _)), by rw [named_id hL]; exact e⟩
  · exact ⟨P, perms_names _ _ _ hP, e⟩
theorem least_named {L : List Int} (hL : IsGraph L) {P : List Nat} (hP : Names L.length L.length P) : leastL (namedL L P) = leastL L := by
  have hl := namedL_length L P
  have hN := named_graph hL hP
  refine Nat.le_antisymm ?_ ?_
  · obtain ⟨R, hR, e⟩ := least_is hL
    have hI := inv_names hP
    have hC := comp_names hI hR
    have h1 := named_comp (L := namedL L P) hN (P := invP L.length P) (Q := R) (by rw [hl]; exact hI) (by rw [hl]; exact hR)
    rw [named_inv hL hP, hl] at h1
    rw [e, h1]
    exact least_le (by rw [hl]; exact hC)
  · obtain ⟨R, hR, e⟩ := least_is hN
    rw [hl] at hR
    rw [e, named_comp hL hP hR]
    exact least_le (comp_names hP hR)
/-- **Alike by names, and by least codes.** -/
theorem alike_iff {L M : List Int} (hL : IsGraph L) (hM : IsGraph M) (hl : L.length = M.length) : likeL L M ≠ [] ↔ (edgesN L = edgesN M ∧ leastL L = leastL M) := by
  rw [likeL_codes hL hM hl]
  constructor
  · intro h
    obtain ⟨P, hP⟩ := List.exists_mem_of_ne_nil _ h
    obtain ⟨h1, h2⟩ := List.mem_filter.1 hP
    have hn := perms_names _ _ _ h1
    unfold okC at h2
    rw [beq_iff_eq] at h2
    have e := code_inj (named_graph hL hn) hM (by rw [namedL_length, hl]) h2
    rw [← e]
    exact ⟨(edges_named hL hn).symm, (least_named hL hn).symm⟩
  · rintro ⟨_, h⟩
    obtain ⟨P, hP, e1⟩ := least_is hL
    obtain ⟨Q, hQ, e2⟩ := least_is hM
    have e := code_inj (named_graph hL hP) (named_graph hM hQ) (by rw [namedL_length, namedL_length, hl]) (by rw [← e1, ← e2, h])
    have hQ' : Names L.length L.length Q := by rw [hl]; exact hQ
    have h1 := named_inv hM hQ
    rw [← e, ← hl, named_comp hL hP (inv_names hQ')] at h1
    refine List.ne_nil_of_mem (a := compP L.length P (invP L.length Q)) (List.mem_filter.2 ⟨perms_all _ _ _ (comp_names hP (inv_names hQ')), ?_⟩)
    unfold okC
    rw [h1, beq_self_eq_true]

end Go.Proofs.YtkngijkhhonikaaDoor

/- The nodes of a set below a bound, in order. Plain mathematics, no condition. -/

namespace Go.Proofs.YtkngijkhhonikaaDoor
open Go Go.RowKit
set_option linter.unusedVariables false
set_option maxRecDepth 100000

def upN (s k : Nat) : List Nat := (List.range k).filter fun i => s / 2 ^ i % 2 == 1
theorem upN_zero (s : Nat) : upN s 0 = [] := rfl
theorem upN_succ (s k : Nat) : upN s (k + 1) = upN s k ++ (if s / 2 ^ k % 2 = 1 then [k] else []) := by
  unfold upN
  rw [List.range_succ, List.filter_append]
  by_cases h : s / 2 ^ k % 2 = 1 <;> simp [h]
theorem upN_length (s k : Nat) : (upN s k).length ≤ k := by
  have := List.length_filter_le (fun i => s / 2 ^ i % 2 == 1) (List.range k)
  simpa [upN] using this
theorem upN_all : ∀ (n : Fin 7) (s : Fin 64), s.val < 2 ^ n.val → upN s.val n.val = nodesL s.val := by decide +kernel
theorem nodes_lt {s n : Nat} (hs : s < 2 ^ n) : ∀ x ∈ nodesL s, x < n := fun x hx => bit_lt hs (nodes_mem.1 hx).2
end Go.Proofs.YtkngijkhhonikaaDoor

/- A list of numbers in order. Plain mathematics, no condition. -/

namespace Go.Proofs.YtkngijkhhonikaaDoor
open Go Go.RowKit
set_option linter.unusedVariables false
set_option maxRecDepth 100000

/-- A list in order. -/
def sortL (xs : List Int) : List Int := xs.mergeSort (fun x y => decide (x ≤ y))
theorem sortL_length (xs : List Int) : (sortL xs).length = xs.length := by unfold sortL; exact List.length_mergeSort xs
theorem sortL_perm (xs : List Int) : (sortL xs).Perm xs := List.mergeSort_perm xs _
theorem sortL_nil : sortL [] = [] := by simp [sortL]
/-- A list that is in order and a permutation is the list in order. -/
theorem sortL_of {xs ys : List Int} (hp : ys.Perm xs) (hs : ys.Pairwise (· ≤ ·)) : ys = sortL xs := by
  refine List.Perm.eq_of_pairwise (le := fun x y : Int => x ≤ y) (fun a b _ _ h1 h2 => Int.le_antisymm h1 h2) hs ?_ (hp.trans (sortL_perm xs).symm)
  have h := List.pairwise_mergeSort (le := fun x y : Int => decide (x ≤ y)) (fun a b c h1 h2 => by simp at *; omega) (fun a b => by simp; omega) xs
  exact h.imp (fun h => by simpa using h)
end Go.Proofs.YtkngijkhhonikaaDoor

/- The graph of some nodes is a graph; the cards of a deck. Plain mathematics, no condition. -/






namespace Go.Proofs.YtkngijkhhonikaaDoor
open Go Go.RowKit
set_option linter.unusedVariables false
set_option maxRecDepth 100000

/-- The graph of the nodes of a set. -/
def partG (L : List Int) (s : Nat) : List Int := ints (lrun (nodesL s).length id (keptIn L (nodesL s) (rows (nodesL s).length)))
theorem partG_length (L : List Int) (s : Nat) : (partG L s).length = (nodesL s).length := by unfold partG; rw [ints_length, lrun_length]
theorem partG_eq {L : List Int} (hg : IsGraph L) {s : Nat} (hs : s < 2 ^ L.length) : partG L s = ints (partTo L (nodesL s) (nodesL s).length) := by
  unfold partG
  rw [part_eq L hg (nodesL s) (nodes_lt hs)]
theorem partG_bt {L : List Int} (hg : IsGraph L) {s : Nat} (hs : s < 2 ^ L.length) (i j : Nat) : bt (partG L s) i j = 1 ↔ i < (nodesL s).length ∧ j < (nodesL s).length ∧ bt L (at_ (nodesL s) i) (at_ (nodesL s) j) = 1 := by
  rw [partG_eq hg hs, bt_ints, partTo_bit]
theorem bt_zero_of {L : List Int} {i j : Nat} (h : ¬ bt L i j = 1) : bt L i j = 0 := by have := bt_le L i j; omega
theorem partG_graph {L : List Int} (hg : IsGraph L) {s : Nat} (hs : s < 2 ^ L.length) (h1 : 1 ≤ (nodesL s).length) : IsGraph (partG L s) := by
  have hl := partG_length L s
  have hn6 := nodes_length s
  have hat : ∀ i, i < (nodesL s).length → at_ (nodesL s) i < L.length := fun i hi => at_lt (nodes_lt hs) hi
  refine ⟨by rw [hl]; exact h1, by rw [hl]; exact hn6, fun v hv => ?_⟩
  rw [hl] at hv
  refine ⟨?_, ?_, fun w hw => ?_⟩
  · unfold InR
    rw [hl]
    have e : (partG L s)[v]?.getD 0 = ((partTo L (nodesL s) (nodesL s).length)[v]?.getD 0 : Nat) := by rw [partG_eq hg hs, ints_get]
    rw [e]
    refine ⟨by omega, ?_⟩
    have h1 : (partTo L (nodesL s) (nodesL s).length)[v]?.getD 0 < 2 ^ (nodesL s).length := by
      refine Nat.lt_pow_two_of_testBit _ fun j hj => ?_
      cases e : ((partTo L (nodesL s) (nodesL s).length)[v]?.getD 0).testBit j with
      | false => rfl
      | true =>
        have h2 := (partTo_bit L (nodesL s) v j).1 e
        omega
    omega
  · refine bt_zero_of fun h3 => ?_
    have h4 := (partG_bt hg hs v v).1 h3
    have := (hg.2.2 _ (hat v hv)).2.1
    omega
  · refine bt_eq ?_
    rw [partG_bt hg hs, partG_bt hg hs]
    constructor
    · rintro ⟨a, b, c⟩; exact ⟨b, a, (bt_sym hg (hat _ b) (hat _ a)).trans c⟩
    · rintro ⟨a, b, c⟩; exact ⟨b, a, (bt_sym hg (hat _ b) (hat _ a)).trans c⟩

/-- The set of all nodes but one. -/
def dropSet (n v : Nat) : Nat := less (2 ^ n - 1) (2 ^ v)
theorem dropSet_facts : ∀ n : Fin 7, ∀ v : Fin 6, v.val < n.val → dropSet n.val v.val < 2 ^ n.val ∧ (nodesL (dropSet n.val v.val)).length = n.val - 1 := by decide +kernel
theorem dropSet_lt {n v : Nat} (hn : n ≤ 6) (hv : v < n) : dropSet n v < 2 ^ n := (dropSet_facts ⟨n, by omega⟩ ⟨v, by omega⟩ hv).1
theorem dropSet_len {n v : Nat} (hn : n ≤ 6) (hv : v < n) : (nodesL (dropSet n v)).length = n - 1 := (dropSet_facts ⟨n, by omega⟩ ⟨v, by omega⟩ hv).2
/-- The graph without a node. -/
def dropG (L : List Int) (v : Nat) : List Int := partG L (dropSet L.length v)
theorem dropG_length {L : List Int} (hg : IsGraph L) {v : Nat} (hv : v < L.length) : (dropG L v).length = L.length - 1 := by
  unfold dropG; rw [partG_length, dropSet_len hg.2.1 hv]
theorem dropG_graph {L : List Int} (hg : IsGraph L) (h2 : 2 ≤ L.length) {v : Nat} (hv : v < L.length) : IsGraph (dropG L v) :=
  partG_graph hg (dropSet_lt hg.2.1 hv) (by rw [dropSet_len hg.2.1 hv]; omega)
/-- A card: the least code of the graph without a node. -/
def cardOf (L : List Int) (v : Nat) : Nat := leastL (dropG L v)
def deckTo (L : List Int) (k : Nat) : List Int := ints ((List.range k).map (cardOf L))
theorem deckTo_zero (L : List Int) : deckTo L 0 = [] := rfl
theorem deckTo_succ (L : List Int) (k : Nat) : deckTo L (k + 1) = deckTo L k ++ [((cardOf L k : Nat) : Int)] := by simp [deckTo, List.range_succ, ints]
theorem deckTo_length (L : List Int) (k : Nat) : (deckTo L k).length = k := by simp [deckTo, ints]
/-- The deck of a graph. -/
def deckL (L : List Int) : List Int := sortL (deckTo L L.length)
theorem deckL_length (L : List Int) : (deckL L).length = L.length := by unfold deckL; rw [sortL_length, deckTo_length]
/-- Codes are small. -/
theorem least_small {L : List Int} (hg : IsGraph L) : leastL L < 32768 := by
  obtain ⟨P, hP, e⟩ := least_is hg
  rw [e]
  exact crun_small _ _ (rows_length _ (by rw [namedL_length]; exact hg.2.1))
theorem least_lt {L : List Int} (hg : IsGraph L) : leastL L < 2 ^ (rows L.length).length := by
  obtain ⟨P, hP, e⟩ := least_is hg
  rw [e]
  have h := crun_lt (namedL L P) (rows (namedL L P).length)
  rw [namedL_length] at h
  unfold codeOf
  rw [namedL_length]
  exact h
end Go.Proofs.YtkngijkhhonikaaDoor

/- Codes and graphs lead to each other, bit by bit; one edge taken away. Plain mathematics, no condition. -/

namespace Go.Proofs.YtkngijkhhonikaaDoor
open Go Go.RowKit
set_option linter.unusedVariables false
set_option maxRecDepth 100000

theorem get_snoc {α : Type} {l : List α} {x e : α} {k : Nat} : (l ++ [x])[k]? = some e ↔ l[k]? = some e ∨ (k = l.length ∧ x = e) := by
  by_cases h : k < l.length
  · rw [List.getElem?_append_left h]
    constructor
    · exact fun h => .inl h
    · rintro (h | ⟨h, _⟩)
      · exact h
      · omega
  · rw [List.getElem?_append_right (by omega)]
    have h0 : l[k]? = none := List.getElem?_eq_none (by omega)
    rw [h0]
    by_cases h2 : k = l.length
    · subst h2; simp
    · have h3 : ([x] : List α)[k - l.length]? = none := List.getElem?_eq_none (by simp; omega)
      rw [h3]
      simp [h2]
/-- A pair in either order. -/
def Either (e : Nat × Nat) (i j : Nat) : Prop := (i = e.1 ∧ j = e.2) ∨ (i = e.2 ∧ j = e.1)
theorem run_bit (c n : Nat) (ps : List (Nat × Nat)) (hp : ∀ e ∈ ps, e.1 < n ∧ e.2 < n) (i j : Nat) :
    ((run c n ps).1[i]?.getD 0).testBit j = true ↔ ∃ k e, ps[k]? = some e ∧ c / 2 ^ k % 2 = 1 ∧ Either e i j := by
  induction ps using snoc_ind with
  | h0 =>
    have h : ((run c n []).1[i]?.getD 0) = 0 := by rw [run_nil]; by_cases h : i < n <;> simp [h]
    rw [h]; simp
  | h1 l x ih =>
    have hx := hp x (by simp)
    have ih := ih (fun e he => hp e (by simp [he]))
    rw [run_snoc]
    show ((lnk (run c n l).1 x.1 x.2 (c / 2 ^ (run c n l).2 % 2))[i]?.getD 0).testBit j = true ↔ _
    rw [run_at, lnk_or, orAt_bit _ _ _ _ _ (by rw [orAt_length, run_length]; exact hx.2), orAt_bit _ _ _ _ _ (by rw [run_length]; exact hx.1), bit_test _ _ _ (by omega), bit_test _ _ _ (by omega)]
    simp only [Bool.or_eq_true, Bool.and_eq_true, decide_eq_true_eq, ih]
    constructor
    · rintro ((⟨k, e, h1, h2, h3⟩ | ⟨h1, h2, h3⟩) | ⟨h1, h2, h3⟩)
      · exact ⟨k, e, get_snoc.2 (.inl h1), h2, h3⟩
      · exact ⟨l.length, x, get_snoc.2 (.inr ⟨rfl, rfl⟩), h2, .inl ⟨h1, h3⟩⟩
      · exact ⟨l.length, x, get_snoc.2 (.inr ⟨rfl, rfl⟩), h2, .inr ⟨h1, h3⟩⟩
    · rintro ⟨k, e, h1, h2, h3⟩
      rcases get_snoc.1 h1 with h4 | ⟨h4, h5⟩
      · exact .inl (.inl ⟨k, e, h4, h2, h3⟩)
      · subst h4; subst h5
        rcases h3 with ⟨h5, h6⟩ | ⟨h5, h6⟩
        · exact .inl (.inr ⟨h5, h2, h6⟩)
        · exact .inr ⟨h5, h2, h6⟩
theorem rows_lt {n : Nat} : ∀ e ∈ rows n, e.1 < n ∧ e.2 < n := fun e he => by have := rows_mem n e he; omega
/-- The graph of a code. -/
def codeG (n c : Nat) : List Int := ints (ofCode n c)
theorem codeG_length (n c : Nat) : (codeG n c).length = n := by unfold codeG; rw [ints_length, ofCode_length]
theorem codeG_bt (n c i j : Nat) : bt (codeG n c) i j = 1 ↔ ∃ k e, (rows n)[k]? = some e ∧ c / 2 ^ k % 2 = 1 ∧ Either e i j := by
  unfold codeG
  rw [bt_ints]
  exact run_bit c n (rows n) rows_lt i j
theorem rows_get {n k : Nat} {e : Nat × Nat} (h : (rows n)[k]? = some e) : e.1 < e.2 ∧ e.2 < n := rows_mem n e (List.mem_of_getElem? h)
theorem rows_inj {n : Nat} (hn : n ≤ 6) {k k' : Nat} {e : Nat × Nat} (h : (rows n)[k]? = some e) (h' : (rows n)[k']? = some e) : k = k' := by
  have hd := rows_nodup ⟨n, by omega⟩
  obtain ⟨h1, h2⟩ := List.getElem?_eq_some_iff.1 h
  obtain ⟨h3, h4⟩ := List.getElem?_eq_some_iff.1 h'
  have hp := List.pairwise_iff_getElem.1 hd
  rcases Nat.lt_trichotomy k k' with h5 | h5 | h5
  · exact absurd (h2.trans h4.symm) (hp k k' h1 h3 h5)
  · exact h5
  · exact absurd (h4.trans h2.symm) (hp k' k h3 h1 h5)
theorem rows_at {n a b : Nat} (h : a < b) (hb : b < n) : ∃ k : Nat, (rows n)[k]? = some (a, b) := by
  obtain ⟨k, hk, e⟩ := List.mem_iff_getElem.1 ((rows_all n a b).2 ⟨h, hb⟩)
  exact ⟨k, by rw [List.getElem?_eq_getElem hk, e]⟩
theorem codeG_at {n c k : Nat} (hn : n ≤ 6) {e : Nat × Nat} (h : (rows n)[k]? = some e) : bt (codeG n c) e.1 e.2 = c / 2 ^ k % 2 := by
  have h1 := bt_le (codeG n c) e.1 e.2
  have h2 : bt (codeG n c) e.1 e.2 = 1 ↔ c / 2 ^ k % 2 = 1 := by
    rw [codeG_bt]
    have he := rows_get h
    constructor
    · rintro ⟨k', e', h3, h4, h5⟩
      have he' := rows_get h3
      have hee : e' = e := by
        rcases h5 with ⟨h6, h7⟩ | ⟨h6, h7⟩
        · exact Prod.ext h6.symm h7.symm
        · omega
      subst hee
      rw [rows_inj hn h h3]
      exact h4
    · exact fun h3 => ⟨k, e, h, h3, .inl ⟨rfl, rfl⟩⟩
  by_cases h3 : c / 2 ^ k % 2 = 1
  · rw [h3, h2.2 h3]
  · have h4 : ¬ bt (codeG n c) e.1 e.2 = 1 := fun h => h3 (h2.1 h)
    omega
theorem codeG_graph {n : Nat} (c : Nat) (h1 : 1 ≤ n) (h6 : n ≤ 6) : IsGraph (codeG n c) := by
  have hl := codeG_length n c
  refine ⟨by rw [hl]; exact h1, by rw [hl]; exact h6, fun v hv => ?_⟩
  rw [hl] at hv
  refine ⟨?_, bt_zero_of fun h3 => ?_, fun w hw => bt_eq ?_⟩
  · unfold InR
    rw [hl]
    have e : (codeG n c)[v]?.getD 0 = ((ofCode n c)[v]?.getD 0 : Nat) := by unfold codeG; rw [ints_get]
    rw [e]
    refine ⟨by omega, ?_⟩
    have h2 : (ofCode n c)[v]?.getD 0 < 2 ^ n := by
      refine Nat.lt_pow_two_of_testBit _ fun j hj => ?_
      cases hb : ((ofCode n c)[v]?.getD 0).testBit j with
      | false => rfl
      | true =>
        obtain ⟨k, e, h3, _, h4⟩ := (run_bit c n (rows n) rows_lt v j).1 hb
        have := rows_get h3
        rcases h4 with ⟨_, h5⟩ | ⟨_, h5⟩ <;> omega
    omega
  · obtain ⟨k, e, h4, _, h5⟩ := (codeG_bt n c v v).1 h3
    have := rows_get h4
    rcases h5 with ⟨h6, h7⟩ | ⟨h6, h7⟩ <;> omega
  · rw [codeG_bt, codeG_bt]
    constructor
    · rintro ⟨k, e, h3, h4, h5⟩; exact ⟨k, e, h3, h4, h5.symm.imp (fun ⟨a, b⟩ => ⟨b, a⟩) (fun ⟨a, b⟩ => ⟨b, a⟩)⟩
    · rintro ⟨k, e, h3, h4, h5⟩; exact ⟨k, e, h3, h4, h5.symm.imp (fun ⟨a, b⟩ => ⟨b, a⟩) (fun ⟨a, b⟩ => ⟨b, a⟩)⟩

theorem crun_bitE (L : List Int) (ps : List (Nat × Nat)) (k : Nat) : (crun L ps).1.testBit k = true ↔ ∃ e, ps[k]? = some e ∧ bt L e.1 e.2 = 1 := by
  induction ps using snoc_ind with
  | h0 => show (0 : Nat).testBit k = true ↔ _; simp
  | h1 l x ih =>
    rw [crun_snoc]
    show ((crun L l).1 ||| bt L x.1 x.2 * 2 ^ (crun L l).2).testBit k = true ↔ _
    rw [crun_at, Nat.testBit_or, bit_test _ _ _ (bt_le _ _ _)]
    simp only [Bool.or_eq_true, Bool.and_eq_true, decide_eq_true_eq, ih, get_snoc]
    constructor
    · rintro (⟨e, h1, h2⟩ | ⟨h1, h2⟩)
      · exact ⟨e, .inl h1, h2⟩
      · exact ⟨x, .inr ⟨h2, rfl⟩, h1⟩
    · rintro ⟨e, (h1 | ⟨h1, h2⟩), h3⟩
      · exact .inl ⟨e, h1, h3⟩
      · subst h2; exact .inr ⟨h3, h1⟩
theorem code_bit {L : List Int} {k : Nat} {e : Nat × Nat} (h : (rows L.length)[k]? = some e) : codeOf L / 2 ^ k % 2 = bt L e.1 e.2 := by
  have h1 := crun_bitE L (rows L.length) k
  have h2 : (codeOf L).testBit k = true ↔ bt L e.1 e.2 = 1 := by
    show (crun L (rows L.length)).1.testBit k = true ↔ _
    rw [h1]
    constructor
    · rintro ⟨e', h3, h4⟩
      rw [h] at h3
      cases h3
      exact h4
    · exact fun h3 => ⟨e, h, h3⟩
  rw [Nat.testBit_eq_decide_div_mod_eq, decide_eq_true_eq] at h2
  have := bt_le L e.1 e.2
  by_cases h3 : bt L e.1 e.2 = 1
  · rw [h3, h2.2 h3]
  · have : ¬ codeOf L / 2 ^ k % 2 = 1 := fun h4 => h3 (h2.1 h4)
    omega
theorem code_lt (L : List Int) : codeOf L < 2 ^ (rows L.length).length := crun_lt L _
theorem codeG_code {n c : Nat} (hn : n ≤ 6) (hc : c < 2 ^ (rows n).length) : codeOf (codeG n c) = c := by
  refine Nat.eq_of_testBit_eq fun k => ?_
  have hl := codeG_length n c
  by_cases hk : k < (rows n).length
  · have h := List.getElem?_eq_getElem hk
    have h1 := code_bit (L := codeG n c) (k := k) (e := (rows n)[k]) (by rw [hl]; exact h)
    rw [codeG_at hn h] at h1
    rw [Nat.testBit_eq_decide_div_mod_eq, Nat.testBit_eq_decide_div_mod_eq, h1]
  · have h2 := code_lt (codeG n c)
    rw [hl] at h2
    rw [Nat.testBit_lt_two_pow (Nat.lt_of_lt_of_le h2 (Nat.pow_le_pow_right (by omega) (by omega))), Nat.testBit_lt_two_pow (Nat.lt_of_lt_of_le hc (Nat.pow_le_pow_right (by omega) (by omega)))]
theorem codeG_of {L : List Int} (hg : IsGraph L) : codeG L.length (codeOf L) = L := by
  have hG := codeG_graph (codeOf L) hg.1 hg.2.1
  have hl := codeG_length L.length (codeOf L)
  refine code_inj hG hg hl ?_
  exact codeG_code hg.2.1 (code_lt L)
end Go.Proofs.YtkngijkhhonikaaDoor

/- The number of codes. -/

namespace Go.Proofs.YtkngijkhhonikaaDoor
open Go
/-- The number of codes of n nodes. -/
def codes (n : Nat) : Nat := 2 ^ (n * (n - 1) / 2)
end Go.Proofs.YtkngijkhhonikaaDoor

/- The number of codes is small; how a call that answers one bool ends. -/


namespace Go.Proofs.YtkngijkhhonikaaDoor
open Go.RowKit
set_option linter.unusedVariables false

theorem codes_le (n : Nat) (hn : n ≤ 6) : codes n ≤ 32768 := by
  have : ∀ n ≤ 6, codes n ≤ 32768 := by decide
  exact this n hn

/-- How a call that answers one bool and makes nothing ends. -/
def Answ (w : World) (b : Bool) (e : Ending) (w' : World) : Prop := e = .returned (.bool b) ∧ w' = w

end Go.Proofs.YtkngijkhhonikaaDoor

/- isCode: whether a number is the code of a graph of n nodes. -/



namespace Go.Proofs.YtkngijkhhonikaaDoor
open Go.RowKit
set_option linter.unusedVariables false

set_option maxRecDepth 100000 in
set_option maxHeartbeats 2000000 in
theorem isCode_any (n : Nat) (c : Int) (w : World) (h1 : 1 ≤ n) (h6 : n ≤ 6) :
    Calls Tryd.prog 45 #[.int .i64 n, .int .i64 c] w (Answ w (decide (0 ≤ c ∧ c < (codes n : Int)))) := by
  have hn : n = 1 ∨ n = 2 ∨ n = 3 ∨ n = 4 ∨ n = 5 ∨ n = 6 := by omega
  by_cases h0 : 0 ≤ c
  · by_cases hc : c < (codes n : Int)
    · have e : decide (0 ≤ c ∧ c < (codes n : Int)) = true := decide_eq_true ⟨h0, hc⟩
      have hd0 : decide ((0 : Int) ≤ c) = true := decide_eq_true h0
      have HC := Lib.hid hc
      have E := Lib.hid e
      clear e h0 hc h1 h6
      rcases hn with rfl | rfl | rfl | rfl | rfl | rfl
      all_goals
        have hd := HC.out
        simp [codes] at hd
        have hdd := decide_eq_true hd
        clear hd
        go_enter Tryd.func45, Tryd.ntmps45
        go_wp2
        go_ret
        exact ⟨ret_bool (by first | rw [E.out] | exact (decide_eq_false (Int.not_lt.2 HC.out)).symm), rfl⟩
    · have e : decide (0 ≤ c ∧ c < (codes n : Int)) = false := decide_eq_false (fun h => hc h.2)
      have hd0 : decide ((0 : Int) ≤ c) = true := decide_eq_true h0
      have HC := Lib.hid hc
      have E := Lib.hid e
      clear e h0 hc h1 h6
      rcases hn with rfl | rfl | rfl | rfl | rfl | rfl
      all_goals
        have hd := HC.out
        simp [codes] at hd
        have hdd := decide_eq_false (Int.not_lt.2 hd)
        clear hd
        go_enter Tryd.func45, Tryd.ntmps45
        go_wp2
        go_ret
        exact ⟨ret_bool (by first | rw [E.out] | exact (decide_eq_false (Int.not_lt.2 HC.out)).symm), rfl⟩
  · have e : decide (0 ≤ c ∧ c < (codes n : Int)) = false := decide_eq_false (fun h => h0 h.1)
    have hd0 : decide ((0 : Int) ≤ c) = false := decide_eq_false h0
    have E := Lib.hid e
    clear e h0 h1 h6
    go_enter Tryd.func45, Tryd.ntmps45
    go_wp2
    go_ret
    exact ⟨ret_bool (by rw [E.out]), rfl⟩
end Go.Proofs.YtkngijkhhonikaaDoor

/- Decks as lists of numbers: what is one, the sum of its edges. Plain mathematics, no condition. -/



namespace Go.Proofs.YtkngijkhhonikaaDoor
open Go Go.RowKit
set_option linter.unusedVariables false

/-- A code of a card. -/
def CardAt (n : Nat) (L : List Int) (k : Nat) : Prop := 0 ≤ L[k]?.getD 0 ∧ L[k]?.getD 0 < (codes (n - 1) : Int)
instance (n : Nat) (L : List Int) (k : Nat) : Decidable (CardAt n L k) := by unfold CardAt; exact inferInstance
def cardN (L : List Int) (k : Nat) : Nat := (L[k]?.getD 0).toNat
theorem cardN_int {n : Nat} {L : List Int} {k : Nat} (h : CardAt n L k) : L[k]?.getD 0 = ((cardN L k : Nat) : Int) := by unfold cardN; have := h.1; omega
theorem cardN_lt {n : Nat} {L : List Int} {k : Nat} (h : CardAt n L k) (hn : n ≤ 6) : cardN L k < 1024 := by
  have h1 : codes (n - 1) ≤ 1024 := by
    have : ∀ m ≤ 5, codes m ≤ 1024 := by decide
    exact this (n - 1) (by omega)
  have := h.2
  have := h.1
  unfold cardN
  omega
/-- A list as the deck of a graph of n nodes. -/
def IsDeck (n : Nat) (L : List Int) : Prop := 3 ≤ n ∧ n ≤ 6 ∧ L.length = n ∧ ∀ k, k < n → CardAt n L k
/-- The edges of the first cards. -/
def dsumTo (L : List Int) : Nat → Nat
  | 0 => 0
  | k + 1 => dsumTo L k + pcf 15 (cardN L k)
theorem dsumTo_le (L : List Int) (k : Nat) : dsumTo L k ≤ 15 * k := by
  induction k with
  | zero => exact Nat.le_refl _
  | succ k ih => show dsumTo L k + pcf 15 (cardN L k) ≤ 15 * (k + 1); have := pcf_le 15 (cardN L k); omega
/-- What the edges of a deck tell. -/
def deckE (n : Nat) (L : List Int) : Nat × Bool := if dsumTo L n % (n - 2) = 0 then (dsumTo L n / (n - 2), true) else (0, false)
open Classical in
/-- What DeckEdges answers. -/
noncomputable def deSaid (n : Int) (L : List Int) : Nat × Bool := if n = (n.toNat : Int) ∧ IsDeck n.toNat L then deckE n.toNat L else (0, false)
theorem deSaid_no {n : Int} {L : List Int} (h : ¬ (n = (n.toNat : Int) ∧ IsDeck n.toNat L)) : deSaid n L = (0, false) := if_neg h
theorem deSaid_yes {n : Nat} {L : List Int} (h : IsDeck n L) : deSaid (n : Int) L = deckE n L := by
  unfold deSaid
  rw [if_pos ⟨by simp, by simpa using h⟩]
  simp
theorem deSaid_bad {n : Nat} {L : List Int} (h : ¬ IsDeck n L) : deSaid (n : Int) L = (0, false) := deSaid_no (by simpa using h)
end Go.Proofs.YtkngijkhhonikaaDoor

/- The program's reached and linked: a range over a function inside a loop. -/







namespace Go.Proofs.YtkngijkhhonikaaDoor
open Go.RowKit Go.Shelf
attribute [local go_sem] Oper.semAt_some
set_option linter.unusedVariables false

/-- What the loop carries: the set is one of those that lead to the end. -/
def Lies (L : List Int) (s : Nat) : Prop := Sub 1 s ∧ ∀ t, Sub 1 t → Closed L t → Sub s t
theorem lies_one (L : List Int) : Lies L 1 := ⟨Sub.refl _, fun t h _ => h⟩
theorem lies_wide {L : List Int} {s : Nat} (h : Lies L s) (h6 : L.length ≤ 6) (hs : s < 2 ^ L.length) : Lies L (wide L s (nodesL s)) :=
  ⟨h.1.trans (wide_up _ _ _), fun t h1 hc => wide_in (h.2 t h1 hc) hc _ fun v hv => by
    have h2 := nodes_mem.1 hv
    exact ⟨bit_lt hs h2.2, by rw [Nat.testBit_eq_decide_div_mod_eq, decide_eq_true_eq]; exact h2.2⟩⟩

/-- Between two rounds: the set so far in its box; the graph's box. -/
def ReI (n₀ b n s : Nat) (S : Value) (L : List Int) (pre : List (Nd n s)) (W : World) : Prop :=
  Boxed W n₀ 41 S ∧ Boxed W b 3 (.int .i64 (wide L s (valsN pre) : Nat))
theorem reI_own (n₀ b n s : Nat) (S : Value) (L : List Int) : Own (ReI n₀ b n s S L) := fun pre X Y row hs hg hr =>
  ⟨boxed_own _ _ (fun _ : Unit => _) () X Y row hs.1 hg hr, boxed_own _ _ (fun _ : Unit => _) () X Y row hs.2 hg hr⟩

set_option maxRecDepth 100000 in
set_option maxHeartbeats 4000000 in
theorem implReached_in (A : Option Addr) (c : Nat) (L : List Int) (hg : IsGraph L) (w : World) (h : Seen w A L) (hT : Tab w) :
    CallsIn Fence.wide 7 Tryd.prog 84 #[.slice A L.length c, .int .i64 1] w fun e w' => e = .returned (.int .i64 (turns L L.length : Nat)) ∧ Below w.heap.size w w' := by
  have h1 := hg.1
  have h6 := hg.2.1
  have h2 := hT.lt
  obtain ⟨blk, off, hA0, hbl0, _⟩ := h 0 (by omega)
  subst hA0
  obtain ⟨n, hn⟩ : ∃ n, n = L.length := ⟨_, rfl⟩
  rw [← hn] at h1 h6 ⊢
  have HN := Lib.hid hn
  have H := Lib.hid h
  have HG := Lib.hid hg
  have HT := Lib.hid hT
  have hL2 : ∀ v, v < L.length → ent L v < 2 ^ L.length := fun v hv => ent_lt (hg.2.2 v hv).1
  have HL2 := Lib.hid hL2
  clear h hg hn hT hL2
  refine callsIn_of_wp_marks Tryd.func84 rfl trivial ?_ rfl
  simp only [Tryd.ntmps84, List.size_toArray, List.length_cons, List.length_nil, Nat.reduceAdd, Nat.reduceSub, Array.replicate_succ, Array.replicate_zero, List.push_toArray, List.append_toArray, List.nil_append, List.cons_append]
  gi_wp2
  obtain ⟨W0, eW0⟩ : ∃ W0, W0 = w.alloc (.cells #[.slice (some ⟨blk, off, none⟩) n c] 41) := ⟨_, rfl⟩
  have b0 : Boxed W0 w.heap.size 41 (.slice (some ⟨blk, off, none⟩) n c) := by rw [eW0]; exact Boxed.new w _ _
  have hB0 : Below w.heap.size w W0 := by rw [eW0]; exact (Below.refl _ w).alloc (Nat.le_refl _) _
  rw [← eW0]
  clear eW0
  obtain ⟨n₀, en⟩ : ∃ n₀, n₀ = w.heap.size := ⟨_, rfl⟩
  rw [← en] at b0 hB0 h2 hbl0 ⊢
  have EN := Lib.hid en
  have hle : n₀ ≤ w.heap.size := by omega
  clear en
  refine wpIn_loop (fun a' W' => ∃ (s : Nat) (Ds : List Nat) (u5 u6 u7 u8 u9 u10 u11 u12 u13 u14 u15 u16 u17 u18 u19 u20 u21 : Value), a' = { tmps := #[.slice (some ⟨blk, off, none⟩) n c, .int .i64 s, .pointer (some ⟨n₀, 0, none⟩), undef, .int .i64 0, u5, u6, u7, u8, u9, u10, u11, u12, u13, u14, u15, u16, u17, u18, u19, u20, u21], defers := Ds.map mark } ∧
      s < 2 ^ n ∧ Hid (Lies L s) ∧ Boxed W' n₀ 41 (.slice (some ⟨blk, off, none⟩) n c) ∧ Hid (Marks n₀ Ds W'.heap.size W') ∧ Below n₀ w W') (fun a' _ => 64 - (intOf (a'.tmps.getD 1 undef)).toNat) ?start ?round
  case start => exact ⟨1, [], undef, undef, undef, undef, undef, undef, undef, undef, undef, undef, undef, undef, undef, undef, undef, undef, undef, rfl, Nat.lt_of_lt_of_le (by decide) (Nat.pow_le_pow_right (n := 2) (by omega) h1), Lib.hid (lies_one L), b0, Lib.hid (marks_nil _ _ _), hB0⟩
  case round =>
    rintro a' W ⟨s, Ds, u5, u6, u7, u8, u9, u10, u11, u12, u13, u14, u15, u16, u17, u18, u19, u20, u21, rfl, hs, hli, hbg, hmk, hB⟩
    gi_wp2_with (refine ⟨trivial, ?_⟩; gi_at_call 62; refine (callsIn_wide.2 (nodesIn_any s _)).mono ?_; rintro e w' ⟨rfl, rfl⟩)
    obtain ⟨b, eb⟩ : ∃ b, b = W.heap.size := ⟨_, rfl⟩
    obtain ⟨W', eW'⟩ : ∃ W', W' = (W.alloc (.cells #[.int .i64 s] 3)).alloc (.cells #[.int .i64 s] 3) := ⟨_, rfl⟩
    have sW : W'.heap.size = b + 1 + 1 := by rw [eW', eb]; simp
    have hn0b : n₀ < b := by rw [eb]; exact hbg.lt
    have hB' : Below n₀ w W' := by rw [eW']; exact (hB.alloc (by omega) _).alloc (by simp; omega) _
    have c0 : Boxed W' n₀ 41 (.slice (some ⟨blk, off, none⟩) n c) := by rw [eW']; exact (hbg.alloc _).alloc _
    have c1 : Boxed W' b 3 (.int .i64 (wide L s (valsN ([] : List (Nd n s))) : Nat)) := by rw [eW', eb]; exact (Boxed.new W _ _).alloc _
    have c2 : W'.cell? ⟨b + 1, 0, none⟩ = some (.int .i64 s) := by
      rw [eW', eb]; have h := Boxed.new (W.alloc (.cells #[.int .i64 s] 3)) 3 (.int .i64 s); rw [World.size_alloc] at h; exact h.cell
    have hm' : Marks n₀ Ds b W' := by rw [eW', eb]; exact marks_alloc (marks_alloc hmk.out _) _
    have hTW : Tab W' := HT.out.below hB' (by omega)
    rw [← eb, ← eW']
    have SW := Lib.hid sW
    clear eW' eb hmk hbg hB sW
    refine wpIn_rangeFunc_ownF (α := Nd n s) rfl (by omega) (gf := 82) (lb := #[.pointer (some ⟨b + 1, 0, none⟩)]) rfl trivial (enters_of Tryd.func82 (by kernel_rfl) rfl)
      (nodes_stops _ (b + 1) n s n₀ (by omega) h6 hs W' (by have := SW.out; omega) c2 hTW (by omega) (by have := SW.out; omega)) belowK_t (belowK_b (by have := SW.out; omega)) (Below.refl _ _) (fun _ => rfl)
      (fun pre Z => ReI n₀ b n s (.slice (some ⟨blk, off, none⟩) n c) L pre Z ∧ (Marks n₀ Ds b Z ∧ Below n₀ w Z)) (fun _ _ _ => False)
      (OwnFrom.and (Own.from (reI_own n₀ b n s _ L) _) (OwnFrom.and (marks_own n₀ Ds b _ (by have := SW.out; omega)) (ownFrom_below hle (by have := SW.out; omega)))) (fun _ _ _ _ _ hs _ _ => hs)
      ⟨⟨c0, c1⟩, hm', hB'⟩
      (fun x => { tmps := #[.slice (some ⟨blk, off, none⟩) n c, .int .i64 s, .pointer (some ⟨n₀, 0, none⟩), undef, .int .i64 0, .pointer (some ⟨b, 0, none⟩), .int .i64 (x.1 : Int), .int .i64 s, .int .i64 s,
        .func (.func 82) #[] #[.pointer (some ⟨b + 1, 0, none⟩)], .int .i64 (x.1 : Int), u11, u12, u13, u14, u15, u16, u17, u18, u19, u20, u21], defers := [] }) ?assign ?body ?done ?stop
    case assign =>
      intro l x Z K hK
      gi_wp2
      exact hK
    case body =>
      rintro l pre x Z ⟨⟨d0, d1⟩, hm, hB⟩ hlen
      obtain ⟨v, hvn, hvq⟩ := x
      dsimp only at hvn ⊢
      have hvL : v < L.length := by have := HN.out; omega
      obtain ⟨blk1, off1, hA1, hbl1, hc1⟩ := H.out v hvL
      obtain ⟨rfl, rfl⟩ : blk = blk1 ∧ off = off1 := by injection hA1 with e; injection e with e1 e2; exact ⟨e1, e2⟩
      have hin := (HG.out.2.2 v hvL).1
      have hX := ent_int hin
      have hXl := ent_lt hin
      have h64 := two_le (n := L.length) HG.out.2.1
      have hr64 : wide L s (valsN pre) < 2 ^ n := wide_lt hs _ (fun u hu => by
        simp only [valsN, List.mem_map] at hu
        obtain ⟨q, _, rfl⟩ := hu
        have h5 := HL2.out q.1 (by have := q.2.1; have := HN.out; omega)
        rw [← HN.out] at h5
        exact h5)
      have hw2 : wide L s (valsN (pre ++ [(⟨v, hvn, hvq⟩ : Nd n s)])) = wide L s (valsN pre) ||| ent L v := by rw [valsN_snoc, wide_snoc]
      obtain ⟨X, eX⟩ : ∃ X, X = ent L v := ⟨_, rfl⟩
      obtain ⟨r, er⟩ : ∃ r, r = wide L s (valsN pre) := ⟨_, rfl⟩
      rw [← eX] at hX hXl hw2
      rw [← er] at hr64 hw2 d1
      rw [hX] at hc1
      have hn64 := two_le h6
      have f1 := i64_or_nat r X (by omega) (by omega)
      obtain ⟨r2, er2⟩ : ∃ r2, r2 = r ||| X := ⟨_, rfl⟩
      rw [← er2] at f1 hw2
      have hcv : Z.cell? ⟨blk, off + v, none⟩ = some (.int .i64 X) := (hB.cell (p := ⟨blk, off + v, none⟩) hbl0).trans hc1
      have z0 := d0.cell
      have z1 := d1.cell
      have hi1 : (0 : Int) ≤ (v : Int) ∧ (v : Int) < (n : Int) := by omega
      obtain ⟨w2, ew2⟩ : ∃ w2, w2 = Z.drew := ⟨_, rfl⟩
      have y1 : w2.cell? ⟨b, 0, none⟩ = some (.int .i64 r) := by rw [ew2]; exact d1.cell
      have y2 : w2.frozen? ⟨b, 0, none⟩ = false := by rw [ew2]; exact d1.frozen
      have EW2 := Lib.hid ew2
      have HW2 := Lib.hid hw2
      have D0 := Lib.hid d0
      have D1 := Lib.hid d1
      have HM := Lib.hid hm
      clear ew2 hw2 d0 d1 hm er2 er eX hX hXl h64 hr64 hin hc1 hA1 hbl1 hn64
      gi_wp2
      refine wpIn_tail_round 6 (by kernel_rfl) (by kernel_rfl) (by kernel_rfl) ?_
      simp only [List.take_succ_cons, List.take_zero, List.drop_succ_cons, List.drop_zero]
      repeat still_step
      refine wpStill_nil ?_
      rw [← EW2.out]
      gi_wp2
      rw [EW2.out]
      have gz : Z.grownBy (Z.drew.setCell ⟨b, 0, none⟩ (.int .i64 r2)) (some b) := grown_set (grown_drew (World.grownBy.refl Z (some b))) 0 _
      refine ⟨(KeepsOthers.drew _).trans (KeepsOthers.setCell _ _ _), ((Below.refl n₀ Z).drew).setCell (p := ⟨b, 0, none⟩) (by show n₀ ≤ b; omega) _, ⟨D0.out.kept gz (ne_some (by omega)), ?_⟩, marks_grown HM.out gz ⟨_, D1.out, rfl⟩, hB.drew.setCell (p := ⟨b, 0, none⟩) (by show n₀ ≤ b; omega) _⟩
      rw [HW2.out]
      exact (show Boxed Z.drew b 3 (.int .i64 r) from D1.out).set _
    case done =>
      rintro D xs Z hD hS ⟨⟨d0, d1⟩, hm, hB⟩ hK
      rw [hS] at d1
      have hlt := (Array.getElem?_eq_some_iff.1 hK).1
      have hm2 : Marks n₀ (D :: Ds) Z.heap.size Z := marks_cons hm (by have := SW.out; omega) (by have := SW.out; omega) hlt hK
      have hli2 := lies_wide hli.out (by have := HN.out; omega) (by rw [← HN.out]; exact hs)
      have hr64 : wide L s (nodesL s) < 2 ^ n := wide_lt hs _ (fun u hu => by
        have h5 := HL2.out u (by have h7 := bit_lt hs (nodes_mem.1 hu).2; have := HN.out; omega)
        rw [← HN.out] at h5
        exact h5)
      have hge := wide_ge L s (nodesL s)
      have heq := fun (he : wide L s (nodesL s) = s) => reached_eq (by have := HN.out; omega) (by have := HN.out; omega) HL2.out hli.out.1 hli.out.2 he
      obtain ⟨r, er⟩ : ∃ r, r = wide L s (nodesL s) := ⟨_, rfl⟩
      rw [← er] at d1 hli2 hr64 hge heq
      have hn64 := two_le h6
      have z1 := d1.cell
      have HM := Lib.hid hm2
      have HLI := Lib.hid hli2
      have HEQ := Lib.hid heq
      have D0 := Lib.hid d0
      clear hm hm2 hli2 heq er d0 d1 hS hK
      by_cases hrs : r = s
      · have e : ((r : Int) == (s : Int)) = true := by simp [hrs]
        have hts := HEQ.out hrs
        have HTS := Lib.hid hts
        clear hrs hts
        gi_wp2
        refine leaves_marks (w := w) hle (fun W2 hb2 => ?_) (D :: Ds) _ _ HM.out hB
        refine ⟨_, results_tmp rfl _ _ _, ?_⟩
        refine ⟨?_, by rw [← EN.out]; exact hb2⟩
        rw [HN.out, ← HTS.out]
        rfl
      · have e : ((r : Int) == (s : Int)) = false := by simp; omega
        gi_wp2
        refine ⟨⟨r, D :: Ds, _, _, _, _, _, _, _, _, _, _, _, _, _, _, _, _, _, rfl, hr64, HLI, D0.out, HM, hB⟩, ?_⟩
        simp [intOf]
        omega
    case stop =>
      rintro D cd pre Z _ _ h _
      exact h.elim

end Go.Proofs.YtkngijkhhonikaaDoor

/- The law FnExactGraphLinked returns true at each list, and leaves all that was there as it was. -/


namespace Go.Proofs.YtkngijkhhonikaaDoor
open Go.RowKit
set_option linter.unusedVariables false


set_option maxHeartbeats 1000000 in
theorem linked_any (A : Option Addr) (c : Nat) (L : List Int) (hg : IsGraph L) (w : World) (h : Seen w A L) (hT : Tab w) :
    Calls Tryd.prog 65 #[.slice A L.length c] w (Said1 w (decide (turns L L.length = 2 ^ L.length - 1))) := by
  have h6 := hg.2.1
  have hp := two_pos L.length
  obtain ⟨Q, hQ⟩ : ∃ Q, Q + 1 = 2 ^ L.length := ⟨2 ^ L.length - 1, by omega⟩
  have hQ2 : 2 ^ L.length - 1 = Q := by omega
  have H1 := Lib.hid (callsIn_wide.1 (implReached_in A c L hg w h hT))
  have H2 := Lib.hid (fun w => all_any A L.length c Q h6 hQ w)
  obtain ⟨q, eq⟩ : ∃ q, q = turns L L.length := ⟨_, rfl⟩
  rw [hQ2, ← eq]
  rw [← eq] at H1
  have e1 : ((q : Int) == (Q : Int)) = decide (q = Q) := by rw [Bool.eq_iff_iff]; simp; omega
  clear hg h hT hQ hQ2 eq hp
  go_enter Tryd.func65, Tryd.ntmps65
  go_wp2_with fail
  refine H1.out.mono ?_
  rintro e w1 ⟨rfl, b1⟩
  go_wp2_with fail
  refine (H2.out _).mono ?_
  rintro e w2 ⟨rfl, rfl⟩
  go_wp2
  go_ret
  exact ⟨rfl, b1⟩

set_option maxHeartbeats 1000000 in
theorem implLinked_no (B : Nat) (v : Value) (L : List Int) (hL : ¬ IsGraph L) (w : World) (h : Row w B v L) (hT : Tab w) :
    Calls Tryd.prog 39 #[v] w (Said1 w false) := by
  have H1 := Lib.hid (asG_none B v L hL w h hT)
  clear hL h
  go_enter Tryd.func39, Tryd.ntmps39
  go_wp2_with fail
  refine H1.out.mono ?_
  rintro e w1 ⟨rfl, b1⟩
  go_wp2
  go_ret
  exact ⟨rfl, b1⟩
set_option maxHeartbeats 1000000 in
theorem implLinked_yes (B : Nat) (v : Value) (L : List Int) (hL : IsGraph L) (w : World) (h : Row w B v L) (hT : Tab w) :
    Calls Tryd.prog 39 #[v] w (Said1 w (decide (turns L L.length = 2 ^ L.length - 1))) := by
  have h2 := hT.lt
  have H1 := Lib.hid (asG_graph B v L hL w h hT)
  obtain ⟨A, c, rfl, hs⟩ := h.seen
  have HS := Lib.hid hs
  have HT := Lib.hid hT
  have H2 := Lib.hid (fun w h ht => linked_any A c L hL w h ht)
  obtain ⟨b, eb⟩ : ∃ b, b = decide (turns L L.length = 2 ^ L.length - 1) := ⟨_, rfl⟩
  rw [← eb] at H2 ⊢
  clear hL h hs hT eb
  go_enter Tryd.func39, Tryd.ntmps39
  go_wp2_with fail
  refine H1.out.mono ?_
  rintro e w1 ⟨rfl, b1⟩
  go_wp2_with fail
  refine (H2.out w1 (HS.out.below b1) (HT.out.below b1 (by omega))).mono ?_
  rintro e w2 ⟨rfl, b3⟩
  go_wp2
  go_ret
  exact ⟨rfl, b1.trans (b3.mono b1.size)⟩
theorem implLinked_any (B : Nat) (v : Value) (L : List Int) (b : Bool) (hb : b = true ↔ IsLinked L) (w : World) (h : Row w B v L) (hT : Tab w) :
    Calls Tryd.prog 39 #[v] w (Said1 w b) := by
  by_cases hL : IsGraph L
  · have e : decide (turns L L.length = 2 ^ L.length - 1) = b := by
      rw [Bool.eq_iff_iff, hb, decide_eq_true_eq]
      exact ⟨fun h => ⟨hL, h⟩, fun h => h.2⟩
    rw [← e]
    exact implLinked_yes B v L hL w h hT
  · have e : b = false := by
      cases b
      · rfl
      · exact absurd (hb.1 rfl).1 hL
    rw [e]
    exact implLinked_no B v L hL w h hT
end Go.Proofs.YtkngijkhhonikaaDoor

/- The other graph, as a list. Plain mathematics, no condition. -/


namespace Go.Proofs.YtkngijkhhonikaaDoor
open Go Go.RowKit
set_option linter.unusedVariables false
set_option maxRecDepth 100000

/-- The other neighbours of a node. -/
def oth (L : List Int) (k : Nat) : Nat := less (less (2 ^ L.length - 1) (ent L k)) (2 ^ k)
def otherL (L : List Int) (k : Nat) : List Int := (List.range k).map fun i => ((oth L i : Nat) : Int)
theorem otherL_zero (L : List Int) : otherL L 0 = [] := rfl
theorem otherL_succ (L : List Int) (k : Nat) : otherL L (k + 1) = otherL L k ++ [((oth L k : Nat) : Int)] := by simp [otherL, List.range_succ]
theorem otherL_length (L : List Int) (k : Nat) : (otherL L k).length = k := by simp [otherL]

/-- What the operations yield at one node. -/
theorem oth_step {L : List Int} (hg : IsGraph L) {k : Nat} (hk : k < L.length) : ∃ X P Q p y z : Nat, L[k]?.getD 0 = (X : Int) ∧ X < 64 ∧ Q + 1 = 2 ^ L.length ∧ (wrap64 ((2 : Int) ^ L.length) = (P : Int) ∧ IntKind.i64.wrap ((2 : Int) ^ L.length) = (P : Int) ∧ (P : Int) - 1 = (Q : Int) ∧ IntKind.i64.wrap ((P : Int) - 1) = (Q : Int) ∧ IntKind.i64.wrap (Q : Int) = (Q : Int)) ∧
    (wrap64 ((2 : Int) ^ k) = (p : Int) ∧ IntKind.i64.wrap ((2 : Int) ^ k) = (p : Int)) ∧ bits .andNot .i64 (Q : Int) (X : Int) = (y : Int) ∧ bits .andNot .i64 (y : Int) (p : Int) = (z : Int) ∧ z = oth L k := by
  have h6 := hg.2.1
  have hin := (hg.2.2 k hk).1
  have hX := ent_int hin
  have hXl := ent_lt hin
  have h64 := two_le h6
  have hX64 : ent L k < 64 := by omega
  have hk6 : k ≤ 6 := by omega
  clear hin hXl h64 hk
  obtain ⟨P, Q, hP, hQ, hP64, pf⟩ := shl_facts L.length h6
  have HPF := Lib.hid pf
  clear pf
  have hQ64 : Q < 64 := by omega
  have hQ2 : Q + 1 = 2 ^ L.length := by omega
  obtain ⟨P2, Q2, hP2, hQ22, hP264, qf⟩ := shl_facts k hk6
  have HQF := Lib.hid qf
  clear qf
  have f1 := less_op Q (ent L k) (Nat.lt_trans hQ64 (by decide)) (Nat.lt_trans hX64 (by decide))
  have hy : less Q (ent L k) < 64 := Nat.lt_of_le_of_lt (less_le Q (ent L k)) hQ64
  have f2 := less_op (less Q (ent L k)) P2 (Nat.lt_trans hy (by decide)) (Nat.lt_of_le_of_lt hP264 (by decide))
  have e : 2 ^ L.length - 1 = Q := by rw [← hQ2]; rfl
  obtain ⟨p1, p2, p3, p4, p5⟩ := HPF.out
  obtain ⟨q1, q2, _, _, _⟩ := HQF.out
  refine ⟨ent L k, P, Q, P2, less Q (ent L k), less (less Q (ent L k)) P2, hX, hX64, hQ2, ⟨p1, p2, p3, p4, p5⟩, ⟨q1, q2⟩, f1, f2, ?_⟩
  unfold oth
  rw [e, ← hP2]
end Go.Proofs.YtkngijkhhonikaaDoor

/- Bits of sets; words turned by words. Plain mathematics, no condition. -/


namespace Go.Proofs.YtkngijkhhonikaaDoor
open Go Go.RowKit
set_option linter.unusedVariables false
set_option maxRecDepth 100000

theorem less_tb {a b : Nat} (ha : a < 64) (hb : b ≤ 64) (j : Nat) : (less a b).testBit j = (a.testBit j && !b.testBit j) := by
  unfold less
  have e : 18446744073709551615 - b = 2 ^ 64 - (b + 1) := by
    have h64 : (2 : Nat) ^ 64 = 18446744073709551616 := by decide
    omega
  rw [Nat.testBit_and, e, Nat.testBit_two_pow_sub_succ (Nat.lt_of_le_of_lt hb (by decide))]
  by_cases h : j < 64
  · simp [h]
  · have h1 : a.testBit j = false := Nat.testBit_lt_two_pow (Nat.lt_of_lt_of_le ha (Nat.le_trans (show 64 ≤ 2 ^ 64 by decide) (Nat.pow_le_pow_right (by omega) (by omega))))
    simp [h1]
theorem bt_bit (L : List Int) (i j : Nat) : bt L i j = 1 ↔ (ent L i).testBit j = true := by
  unfold bt
  rw [Nat.testBit_eq_decide_div_mod_eq, decide_eq_true_eq]
theorem less_bits {a b : Nat} (ha : a < 1048576) (hb : b < 1048576) (j : Nat) : (less a b).testBit j = (a.testBit j && !b.testBit j) := by
  unfold less
  have e : 18446744073709551615 - b = 2 ^ 64 - (b + 1) := by
    have h64 : (2 : Nat) ^ 64 = 18446744073709551616 := by decide
    omega
  rw [Nat.testBit_and, e, Nat.testBit_two_pow_sub_succ (Nat.lt_trans hb (by decide))]
  by_cases h : j < 64
  · simp [h]
  · have h1 : a.testBit j = false := Nat.testBit_lt_two_pow (Nat.lt_of_lt_of_le ha (Nat.le_trans (show 1048576 ≤ 2 ^ 64 by decide) (Nat.pow_le_pow_right (by omega) (by omega))))
    simp [h1]
theorem mod_bit (x k : Nat) : x / 2 ^ k % 2 = 1 ↔ x.testBit k = true := by rw [Nat.testBit_eq_decide_div_mod_eq, decide_eq_true_eq]
theorem bt_tb (L : List Int) (i j : Nat) : bt L i j = 1 ↔ (ent L i).testBit j = true := by unfold bt; exact mod_bit _ _
theorem i64_xor_nat (a b : Nat) (ha : a < 9223372036854775808) (hb : b < 9223372036854775808) : bits .xor .i64 (a : Int) (b : Int) = ((a ^^^ b : Nat) : Int) :=
  unword (BitVec.ofInt 64 (a : Int) ^^^ BitVec.ofInt 64 (b : Int)) _ (by rw [BitVec.toNat_xor, word a ha, word b hb]) (Nat.xor_lt_two_pow ha hb)
theorem xor_pow (x k : Nat) (h : k ≤ 40) (hx : x < 9223372036854775808) : bits .xor .i64 (x : Int) (wrap64 ((2 : Int) ^ k)) = ((x ^^^ 2 ^ k : Nat) : Int) := by
  have h1 := pow_le k 40 h
  rw [wrap_pow k h, i64_xor_nat x _ hx (by omega)]
end Go.Proofs.YtkngijkhhonikaaDoor

/- The other graph is a graph. Plain mathematics, no condition. -/



namespace Go.Proofs.YtkngijkhhonikaaDoor
open Go Go.RowKit
set_option linter.unusedVariables false
set_option maxRecDepth 100000

theorem other_ent (L : List Int) {i : Nat} (hi : i < L.length) : (otherL L L.length)[i]?.getD 0 = ((oth L i : Nat) : Int) := by
  unfold otherL
  simp [hi]
theorem oth_le (L : List Int) (k : Nat) : oth L k < 2 ^ L.length := by
  unfold oth
  have h1 := less_le (less (2 ^ L.length - 1) (ent L k)) (2 ^ k)
  have h2 := less_le (2 ^ L.length - 1) (ent L k)
  have := two_pos L.length
  omega
theorem oth_bit {L : List Int} (hL : IsGraph L) {i : Nat} (hi : i < L.length) (j : Nat) : (oth L i).testBit j = (decide (j < L.length) && !(ent L i).testBit j && !decide (i = j)) := by
  have h6 := hL.2.1
  have h64 := two_le h6
  have hp := two_pos L.length
  have he := ent_lt (hL.2.2 i hi).1
  have hi64 := two_le (n := i) (by omega)
  have hl := less_le (2 ^ L.length - 1) (ent L i)
  unfold oth
  rw [less_tb (by omega) hi64, less_tb (by omega) (by omega), Nat.testBit_two_pow_sub_one, Nat.testBit_two_pow]
theorem other_bt {L : List Int} (hL : IsGraph L) {i : Nat} (hi : i < L.length) (j : Nat) : bt (otherL L L.length) i j = 1 ↔ (j < L.length ∧ ¬ bt L i j = 1 ∧ i ≠ j) := by
  rw [bt_bit, bt_bit]
  have e : ent (otherL L L.length) i = oth L i := by
    unfold ent
    rw [other_ent L hi, Int.toNat_natCast]
  rw [e, oth_bit hL hi]
  simp [and_assoc]
theorem other_graph {L : List Int} (hL : IsGraph L) : IsGraph (otherL L L.length) := by
  have hl := otherL_length L L.length
  refine ⟨by rw [hl]; exact hL.1, by rw [hl]; exact hL.2.1, fun v hv => ?_⟩
  rw [hl] at hv
  refine ⟨?_, ?_, fun w hw => ?_⟩
  · unfold InR
    rw [hl, other_ent L hv]
    have := oth_le L v
    omega
  · have h1 := bt_le (otherL L L.length) v v
    refine Nat.le_antisymm (Nat.le_of_not_lt fun h2 => ?_) (Nat.zero_le _)
    have h3 : bt (otherL L L.length) v v = 1 := by omega
    exact ((other_bt hL hv v).1 h3).2.2 rfl
  · refine bt_eq ?_
    rw [other_bt hL hv, other_bt hL (show w < L.length by omega), bt_sym hL hv (show w < L.length by omega)]
    constructor
    · rintro ⟨a, b, c⟩; exact ⟨hv, b, fun e => c e.symm⟩
    · rintro ⟨a, b, c⟩; exact ⟨by omega, b, fun e => c e.symm⟩
end Go.Proofs.YtkngijkhhonikaaDoor

/- A graph or the graph of the other pairs is linked. Plain mathematics, no condition. -/



namespace Go.Proofs.YtkngijkhhonikaaDoor
open Go Go.RowKit
set_option linter.unusedVariables false
set_option maxRecDepth 100000

theorem turns_shut {L : List Int} (hg : IsGraph L) : Closed L (turns L L.length) := by
  rcases turns_grow hg.1 (fun v hv => ent_lt (hg.2.2 v hv).1) L.length with h | h
  · exact h
  · have := cntT_le_n L.length (turns L L.length)
    omega
theorem turns_small {L : List Int} (hg : IsGraph L) (k : Nat) : turns L k < 2 ^ L.length := turns_lt hg.1 (fun v hv => ent_lt (hg.2.2 v hv).1) k
theorem full_of {s n : Nat} (hs : s < 2 ^ n) (h : ∀ j, j < n → s.testBit j = true) : s = 2 ^ n - 1 := by
  refine Nat.eq_of_testBit_eq fun j => ?_
  rw [Nat.testBit_two_pow_sub_one]
  by_cases hj : j < n
  · rw [h j hj]; simp [hj]
  · rw [Nat.testBit_lt_two_pow (Nat.lt_of_lt_of_le hs (Nat.pow_le_pow_right (by omega) (by omega)))]; simp [hj]
theorem linked_or {L : List Int} (hg : IsGraph L) : IsLinked L ∨ IsLinked (otherL L L.length) := by
  have hG := other_graph hg
  have hl := otherL_length L L.length
  by_cases hfull : turns L L.length = 2 ^ L.length - 1
  · exact .inl ⟨hg, hfull⟩
  · refine .inr ⟨hG, ?_⟩
    have hS := turns_shut hg
    have hR := turns_shut hG
    have hSl := turns_small hg L.length
    have hRl := turns_small hG (otherL L L.length).length
    have h0 : (turns L L.length).testBit 0 = true := turns_has L L.length 0 (by decide)
    have r0 : (turns (otherL L L.length) (otherL L L.length).length).testBit 0 = true := turns_has (otherL L L.length) _ 0 (by decide)
    obtain ⟨t, ht, hts⟩ : ∃ t, t < L.length ∧ ¬ (turns L L.length).testBit t = true := by
      refine Classical.byContradiction fun hno => hfull (full_of hSl fun j hj => ?_)
      exact Classical.byContradiction fun hb => hno ⟨j, hj, hb⟩
    have edge : ∀ s u, s < L.length → u < L.length → (turns L L.length).testBit s = true → ¬ (turns L L.length).testBit u = true → bt (otherL L L.length) s u = 1 := fun s u hs hu h1 h2 => by
      refine (other_bt hg hs u).2 ⟨hu, fun hb => h2 (hS s hs h1 u ((bt_bit L s u).1 hb)), fun e => h2 (e ▸ h1)⟩
    have sym : ∀ s u, s < L.length → u < L.length → bt (otherL L L.length) s u = 1 → bt (otherL L L.length) u s = 1 := fun s u hs hu hb => by
      have h3 := (other_bt hg hs u).1 hb
      refine (other_bt hg hu s).2 ⟨hs, fun hb2 => h3.2.1 ?_, fun e => h3.2.2 e.symm⟩
      rcases Nat.lt_trichotomy s u with h | h | h
      · rw [← (hg.2.2 u hu).2.2 s h]; exact hb2
      · exact absurd h h3.2.2
      · rw [(hg.2.2 s hs).2.2 u h]; exact hb2
    have goes : ∀ s u, s < L.length → (turns (otherL L L.length) (otherL L L.length).length).testBit s = true → bt (otherL L L.length) s u = 1 → (turns (otherL L L.length) (otherL L L.length).length).testBit u = true := fun s u hs h1 hb =>
      hR s (by rw [hl]; exact hs) h1 u ((bt_bit _ s u).1 hb)
    have out : ∀ u, u < L.length → ¬ (turns L L.length).testBit u = true → (turns (otherL L L.length) (otherL L L.length).length).testBit u = true := fun u hu h2 =>
      goes 0 u hg.1 r0 (edge 0 u hg.1 hu h0 h2)
    refine full_of hRl fun j hj => ?_
    rw [hl] at hj
    by_cases hjs : (turns L L.length).testBit j = true
    · exact goes t j ht (out t ht hts) (sym j t hj ht (edge j t hj ht hjs hts))
    · exact out j hj hjs
end Go.Proofs.YtkngijkhhonikaaDoor

/- The model's GraphLinked. -/


namespace Go.Proofs.YtkngijkhhonikaaDoor
open Go.RowKit
set_option linter.unusedVariables false


/-- What one node's round asks. -/
theorem lk_step {L : List Int} (hg : IsGraph L) {s y q : Nat} (hs : s < 64) (hy : y < L.length) (hq : turn L s y = q) :
    ∃ X bit r : Nat, q < 64 ∧ L[y]?.getD 0 = (X : Int) ∧ (bit = 0 ∨ bit = 1) ∧ bits .and .i64 ((q : Int) / 2 ^ y) 1 = (bit : Int) ∧ bits .or .i64 (q : Int) (X : Int) = (r : Int) ∧ r < 64 ∧ turn L s (y + 1) = (if bit = 1 then r else q) := by
  have h6 := hg.2.1
  have hin := (hg.2.2 y hy).1
  have hX := ent_int hin
  have hXl := ent_lt hin
  have h64 := two_le h6
  have hq64 : q < 64 := by
    rw [← hq]
    exact turn_lt (m := 6) hs (fun v hv => by have h1 := ent_lt (hg.2.2 v hv).1; omega) y (by omega)
  obtain ⟨bit, eb, hb1, f1⟩ := and_facts q y (by omega)
  have f2 := i64_or_nat q (ent L y) (by omega) (by omega)
  have hr : q ||| ent L y < 2 ^ 6 := Nat.or_lt_two_pow hq64 (by omega)
  refine ⟨ent L y, bit, q ||| ent L y, hq64, hX, by omega, f1, f2, hr, ?_⟩
  rw [turn_succ, hq]
  unfold grow
  by_cases h : q.testBit y = true
  · rw [if_pos h, if_pos (by rw [eb]; exact (bit_test2 q y).1 h)]
  · rw [if_neg h, if_neg (fun e => h ((bit_test2 q y).2 (by rw [← eb]; exact e)))]

set_option maxHeartbeats 1000000 in
theorem specLinked_no (B : Nat) (v : Value) (L : List Int) (hL : ¬ IsGraph L) (w : World) (h : Row w B v L) :
    Calls Tryd.prog 53 #[v] w (Looked w false) := by
  have H1 := Lib.hid (specIn_any B v L false ⟨fun h => (by cases h), fun h => absurd h hL⟩ w h)
  clear hL h
  go_enter Tryd.func53, Tryd.ntmps53
  go_wp2_with fail
  refine H1.out.mono ?_
  rintro e w1 ⟨rfl, d, rfl⟩
  go_wp2
  go_ret
  exact ⟨rfl, d, rfl⟩
set_option maxHeartbeats 2000000 in
theorem specLinked_yes (B : Nat) (v : Value) (L : List Int) (hg : IsGraph L) (w : World) (h : Row w B v L) :
    Calls Tryd.prog 53 #[v] w (Looked w (decide (turns L L.length = 2 ^ L.length - 1))) := by
  have h1 := hg.1
  have h6 := hg.2.1
  have H1 := Lib.hid (specIn_any B v L true ⟨fun _ => hg, fun _ => rfl⟩ w h)
  obtain ⟨A, c, rfl, hs⟩ := h.seen
  obtain ⟨P, Q, hP, hQ, hP64, p1, p2, p3, p4, p5⟩ := shl_facts L.length h6
  have hQ2 : 2 ^ L.length - 1 = Q := by omega
  rw [hQ2]
  obtain ⟨n, hn⟩ : ∃ n, n = L.length := ⟨_, rfl⟩
  rw [← hn] at h1 h6 H1 p1 p2 ⊢
  have HN := Lib.hid hn
  have H := Lib.hid hs
  have HG := Lib.hid hg
  clear h hg hn hs hP hQ hQ2
  go_enter Tryd.func53, Tryd.ntmps53
  go_wp2_with fail
  refine H1.out.mono ?_
  rintro e w1 ⟨rfl, d, rfl⟩
  have HD : Hid (Seen (w.drewN d) A L) := Lib.hid H.out
  have hqq := Lib.hid (show Looked w (decide (turns L n = Q)) (.returned (.bool (decide (turns L n = Q)))) (w.drewN d) from ⟨rfl, d, rfl⟩)
  obtain ⟨wd, ewd⟩ : ∃ wd, wd = w.drewN d := ⟨_, rfl⟩
  rw [← ewd] at HD hqq ⊢
  clear ewd H H1
  go_wp2
  go_loop [3, 4] (fun s i => ∃ q k : Nat, k ≤ n ∧ q < 64 ∧ i = .int .i64 k ∧ s = .int .i64 q ∧ Hid (turns L k = q)) (fun _ i => n - (intOf i).toNat)
  case atStart => exact ⟨1, 0, Nat.zero_le _, by omega, rfl, rfl, Lib.hid rfl⟩
  case round =>
    obtain ⟨q, k, hk, hq64, rfl, rfl, hq⟩ := hrel
    by_cases hlt : k < n
    · go_wp2
      go_loop [3, 5] (fun s i => ∃ r y : Nat, y ≤ n ∧ r < 64 ∧ i = .int .i64 y ∧ s = .int .i64 r ∧ Hid (turn L q y = r)) (fun _ i => n - (intOf i).toNat)
      case atStart => exact ⟨q, 0, Nat.zero_le _, hq64, rfl, rfl, Lib.hid rfl⟩
      case round =>
        obtain ⟨r, y, hy, hr64, rfl, rfl, hr⟩ := hrel
        by_cases hly : y < n
        · obtain ⟨X, bit, r2, _, eX, hbit, f1, f2, hr2, f3⟩ := lk_step HG.out hq64 (show y < L.length by have := HN.out; omega) hr.out
          obtain ⟨blk, off, rfl, hbl, hc⟩ := HD.out y (by have := HN.out; omega)
          rw [eX] at hc
          have hi1 : (0 : Int) ≤ (y : Int) ∧ (y : Int) < (n : Int) := by omega
          have F3 := Lib.hid f3
          clear f3 eX hbl
          rcases hbit with rfl | rfl
          · go_wp2
            go_round
            case rel => exact ⟨r, y + 1, by omega, hr64, by go_num, rfl, Lib.hid (by rw [F3.out]; rfl)⟩
            case measure => simp [intOf]; omega
          · go_wp2
            go_round
            case rel => exact ⟨r2, y + 1, by omega, hr2, by go_num, by go_num, Lib.hid (by rw [F3.out]; rfl)⟩
            case measure => simp [intOf]; omega
        · have hyn : y = n := by omega
          subst hyn
          go_wp2
          go_round
          case rel => exact ⟨r, k + 1, by omega, hr64, by go_num, rfl, Lib.hid (by rw [← hr.out, ← hq.out, HN.out]; rfl)⟩
          case measure => simp [intOf]; omega
    · have hkn : k = n := by omega
      subst hkn
      have e : ((q : Int) == (Q : Int)) = decide (turns L k = Q) := by rw [hq.out, Bool.eq_iff_iff]; simp; omega
      go_wp2
      go_ret
      exact hqq.out
end Go.Proofs.YtkngijkhhonikaaDoor

/- The model's GraphLinked at each list (cut out of the law of GraphLinked). -/


namespace Go.Proofs.YtkngijkhhonikaaDoor
open Go Go.RowKit
set_option linter.unusedVariables false

theorem specLinked_any (B : Nat) (v : Value) (L : List Int) (b : Bool) (hb : b = true ↔ IsLinked L) (w : World) (h : Row w B v L) :
    Calls Tryd.prog 53 #[v] w (Looked w b) := by
  by_cases hL : IsGraph L
  · have e : decide (turns L L.length = 2 ^ L.length - 1) = b := by
      rw [Bool.eq_iff_iff, hb, decide_eq_true_eq]
      exact ⟨fun h => ⟨hL, h⟩, fun h => h.2⟩
    rw [← e]
    exact specLinked_yes B v L hL w h
  · have e : b = false := by
      cases b
      · rfl
      · exact absurd (hb.1 rfl).1 hL
    rw [e]
    exact specLinked_no B v L hL w h

end Go.Proofs.YtkngijkhhonikaaDoor

/- A loop over an iterator whose own text is a loop over another iterator: the contract for such an iterator, and what a caller owes. -/






namespace Go.Proofs.YtkngijkhhonikaaDoor
open Go.RowKit Go.Shelf
set_option linter.unusedVariables false

/-- Some blocks lie as they lay. -/
def Lie (b d : Nat) (A B : World) : Prop := ∀ (k : Nat) (o : Obj), b ≤ k → k < b + d → A.heap[k]? = some o → B.heap[k]? = some o
theorem Lie.trans {b d : Nat} {A B C : World} (h : Lie b d A B) (k : Lie b d B C) : Lie b d A C := fun i o h1 h2 h3 => k i o h1 h2 (h i o h1 h2 h3)
theorem lie_put {b d : Nat} {W : World} {l : Nat} (o' : Obj) (h : l < b) : Lie b d W (W.putObj l o') := fun k o h1 _ h3 => (World.putObj_heap_other (by omega)).trans h3

/-- The iterator lays blocks of its own while it runs (d of them first): the caller's facts abide them, and a round leaves them alone. -/
def Outer (d : Nat) {α : Type} (F : Fence) (n : Nat) (P : Program) (g : Nat) (lb : Array Value) (encs : α → Array Value) (Kp : World → World → Prop) (S Sp : List α → Prop) (N : Nat) (w : World) : Prop :=
  ∀ (l : Nat) (J Jx : List α → World → Prop) (W : World), Below w.heap.size w W → OwnFrom W.heap.size J → OwnFrom W.heap.size Jx →
    (∀ pre x W1, J pre W1 → pre.length < N → YieldAt F (n - 1) P l (encs x) W1 fun e W' =>
      (e = .returned (.bool true) ∧ J (pre ++ [x]) W' ∧ Kp W1 W' ∧ KeepsFrom W.heap.size W1 W' ∧ Lie W.heap.size d W1 W') ∨ (e = .returned (.bool false) ∧ Jx (pre ++ [x]) W' ∧ KeepsFrom W.heap.size W1 W' ∧ Lie W.heap.size d W1 W')) →
    J [] W →
    CallsIn F n P g (#[.func (.yield l) #[] #[]] ++ lb) W fun e W' => (∃ v, e = .returned v) ∧ ((∃ xs, S xs ∧ J xs W') ∨ (∃ pre, Sp pre ∧ Jx pre W'))

theorem keepsFrom_put {B : Nat} {W : World} {l : Nat} (o' : Obj) (h : l < B) : KeepsFrom B W (W.putObj l o') :=
  KeepsFrom.of_grownBy (grownBy_putObj' W l o') (fun j e => by cases e; exact h)
theorem keepsFrom_up {B B' : Nat} {W W' : World} (h : KeepsFrom B W W') (hb : B ≤ B') : KeepsFrom B' W W' := ⟨h.size, fun k o hk => h.same k o (Nat.le_trans hb hk)⟩

variable {F : Fence} {n : Nat} {P : Program}

/-- What a caller of such an iterator owes. -/
theorem wpIn_outer {α : Type} {g : Operand} {ps : Array Tmp} {assign body : Code} {Q : Exit → Act → World → Prop} {a : Act} {w : World}
    (hro : F.round = none) (h1 : 1 ≤ n) {gf : Nat} {lb : Array Value} (hg : a.eval g = .func (.func gf) #[] lb) (hFg : F.fn gf) (eg : ∀ args w, (callFunc gf args).run P w = .ok (.enter gf args) w)
    {encs : α → Array Value} {Kp : World → World → Prop} {S Sp : List α → Prop} {N : Nat} {w0 : World} {d : Nat} (hseq : Outer d F (n - 1) P gf lb encs Kp S Sp N w0)
    (hKt : ∀ {A B C : World}, Kp A B → Kp B C → Kp A C) (hKb : ∀ (W : World) (l : Nat) (o o' : Obj), w.heap.size ≤ l → W.heap[l]? = some o → o.isCells = false → o.isWalk = false → Kp W (W.putObj l o')) (hb0 : Below w0.heap.size w0 w) (hps : ∀ x, (encs x).size = ps.size)
    (I : List α → World → Prop) (Ix : Code → List α → World → Prop) (hI : OwnFrom w.heap.size I) (hIx : ∀ c, OwnFrom w.heap.size (Ix c)) (h0 : I [] w) (a₁ : α → Act)
    (hassign : ∀ (l : Nat) (x : α) (W : World) (K : Act → World → Prop), K (a₁ x) W →
      assign.wpIn (F.inRound l) (n - 1 - 1) P (Exit.then K (fun _ _ _ => False)) { tmps := (ps.zip (encs x)).foldl (fun t (p, v) => t.setIfInBounds p v) a.tmps, defers := [] } W)
    (hbody : ∀ (l : Nat) (pre : List α) (x : α) (W : World), I pre W → pre.length < N → body.wpIn (F.inRound l) (n - 1 - 1) P (fun e a' Z => ownPostG w.heap.size Kp I Ix (pre ++ [x]) W e a' Z ∧ Lie (w.heap.size + 2) d W Z) (a₁ x) W)
    (hdone : ∀ (D : Nat) (xs : List α) (W : World), w.heap.size ≤ D → S xs → I xs W → W.heap[D]? = some (.deferred (some [])) → Q .normal { a with defers := { target := .collected D, args := #[] } :: a.defers } W)
    (hstop : ∀ (D : Nat) (c : Code) (pre : List α) (W : World), w.heap.size ≤ D → Sp pre → Ix c pre W → W.heap[D]? = some (.deferred (some [])) → c.wpIn F n P Q { a with defers := { target := .collected D, args := #[] } :: a.defers } W) :
    (Code.rangeFunc g ps assign body).wpIn F n P Q a w := by
  refine wpIn_rangeFunc ?_
  intro fn hfn
  rw [hro]
  -- the loop's record, in one of its states
  obtain ⟨m, hm⟩ : ∃ m, m = w.heap.size := ⟨_, rfl⟩
  obtain ⟨at_, hat⟩ : ∃ at_ : LoopState → Option Code → Obj, at_ = fun st pe => .loop { state := st, pending := pe, fn, tmps := a.tmps, params := ps, assign, body, defers := m } := ⟨_, rfl⟩
  obtain ⟨V, hV⟩ : ∃ V, V = (w.alloc (.deferred (some []))).alloc (at_ .ready none) := ⟨_, rfl⟩
  have sV : V.heap.size = m + 2 := by rw [hV, hm]; simp
  have rV : V.heap[m + 1]? = some (at_ .ready none) := by
    have e := World.alloc_heap_new (w.alloc (.deferred (some []))) (at_ .ready none)
    rw [World.size_alloc, ← hm] at e
    rw [hV]; exact e
  have dV : V.heap[m]? = some (.deferred (some [])) := by
    rw [hV, hm]; exact (Below.heap_alloc _ _ _ (by simp)).trans (World.alloc_heap_new w _)
  have iV : I [] V := by rw [hV]; exact hI.alloc _ (hI.alloc _ h0)
  have bV : Below w0.heap.size w0 V := by
    rw [hV]; exact hb0.trans ((((Below.refl _ w).alloc (Nat.le_refl _) _).alloc (by simp) _).mono hb0.size)
  refine ⟨m + 1, [{ target := .collected m, args := #[] }], V, { target := .fn (.func gf) lb, args := #[.func (.yield (m + 1)) #[] #[]] }, V, gf, #[.func (.yield (m + 1)) #[] #[]] ++ lb, V, ?_, ?_, ?_, ?_, fun _ => h1, ?_⟩
  · rw [hV, hat, hm]; exact run_enterLoop_outer _ _ _ _ _
  · simp only [resolve, hg]
    simp [go_sem]
  · intro f' hf'; simp [Target.leads] at hf'; subst hf'; exact hFg
  · simp [invoke, go_sem, eg]
  · rw [← hm] at hI hIx hbody hdone hstop hKb
    have up : ∀ {row : Option Nat} {A : World}, (∀ r, row = some r → V.heap.size ≤ r ∧ ∃ o : Obj, A.heap[r]? = some o ∧ o.isCells = false) → (∀ r, row = some r → m ≤ r ∧ ∃ o : Obj, A.heap[r]? = some o ∧ o.isCells = false) :=
      fun h r e => ⟨by have := (h r e).1; omega, (h r e).2⟩
    have far : ∀ {row : Option Nat} {A B : World} {k : Nat} {o : Obj}, A.grownBy B row → (∀ r, row = some r → V.heap.size ≤ r ∧ ∃ o : Obj, A.heap[r]? = some o ∧ o.isCells = false) → k < m + 2 → A.heap[k]? = some o → B.heap[k]? = some o :=
      fun hgr h hk e => (hgr.block _ (Array.getElem?_eq_some_iff.1 e).1 (fun e' => by have := (h _ e'.symm).1; omega)).trans e
    refine (hseq (m + 1) (fun pre W => I pre W ∧ W.heap[m + 1]? = some (at_ .ready none) ∧ W.heap[m]? = some (.deferred (some [])))
      (fun pre W => ∃ c, Ix c pre W ∧ W.heap[m + 1]? = some (at_ .done (some c)) ∧ W.heap[m]? = some (.deferred (some []))) V bV
      (fun s A B row hs hgr hr => ⟨hI s A B row hs.1 hgr (up hr), far hgr hr (by omega) hs.2.1, far hgr hr (by omega) hs.2.2⟩)
      (fun s A B row hs hgr hr => by
        obtain ⟨c, q1, q2, q3⟩ := hs
        exact ⟨c, hIx c s A B row q1 hgr (up hr), far hgr hr (by omega) q2, far hgr hr (by omega) q3⟩)
      ?_ ⟨iV, rV, dV⟩).mono ?_
    · -- a round
      rintro pre x W ⟨hi, hl, hd⟩ hlen
      have hlt : m + 1 < W.heap.size := (Array.getElem?_eq_some_iff.1 hl).1
      have hl' := hl
      rw [hat] at hl'
      have hy := run_yield (P := P) (args := encs x) hl' (by exact hps x)
      refine ⟨fn, _, assign, body, hy, roundIn_of_wpIn hfn (hassign _ x W _ ⟨_, run_beginRound hl' rfl, ?_⟩)⟩
      obtain ⟨U, hU⟩ : ∃ U, U = W.putObj (m + 1) (at_ .busy none) := ⟨_, rfl⟩
      have rU : U.heap[m + 1]? = some (at_ .busy none) := by rw [hU]; exact World.putObj_heap_same hlt
      have dU : U.heap[m]? = some (.deferred (some [])) := by rw [hU]; exact (World.putObj_heap_other (by omega)).trans hd
      have kU : Kp W U := by rw [hU]; exact hKb _ _ _ _ (by omega) hl (by rw [hat]; rfl) (by rw [hat]; rfl)
      have iU : I pre U := by rw [hU]; exact hI.putObj _ hi (by omega) hl (by rw [hat]; rfl)
      have fU : KeepsFrom V.heap.size W U := by rw [hU]; exact keepsFrom_put _ (by omega)
      have lU : Lie V.heap.size d W U := by rw [hU]; exact lie_put _ (by omega)
      have eU : W.putObj (m + 1) (.loop { state := .busy, pending := none, fn, tmps := a.tmps, params := ps, assign, body, defers := m }) = U := by rw [hU, hat]
      show body.wpIn _ _ _ _ _ (W.putObj (m + 1) (.loop { state := .busy, pending := none, fn, tmps := a.tmps, params := ps, assign, body, defers := m }))
      rw [eU]
      refine wpIn_mono (hbody _ pre x U iU hlen) ?_
      have fin : ∀ (jump : Option Code) (Z : World), KeepsFrom m U Z → Lie (m + 2) d U Z →
          (Instr.endRound (m + 1) jump).run P Z = .ok (.bool jump.isNone) (Z.putObj (m + 1) (at_ (if jump.isNone then .ready else .done) jump)) ∧ Z.heap[m + 1]? = some (at_ .busy none) ∧
          (Z.putObj (m + 1) (at_ (if jump.isNone then .ready else .done) jump)).heap[m + 1]? = some (at_ (if jump.isNone then .ready else .done) jump) ∧
          (Z.putObj (m + 1) (at_ (if jump.isNone then .ready else .done) jump)).heap[m]? = some (.deferred (some [])) ∧ KeepsFrom V.heap.size W (Z.putObj (m + 1) (at_ (if jump.isNone then .ready else .done) jump)) ∧ Lie V.heap.size d W (Z.putObj (m + 1) (at_ (if jump.isNone then .ready else .done) jump)) := fun jump Z hk hz => by
        have h3 := hk.same _ _ (by omega) rU (by rw [hat]; rfl)
        have h4 := h3
        rw [hat] at h4
        have h5 := run_endRound (P := P) jump h4
        refine ⟨by rw [hat]; exact h5, h3, World.putObj_heap_same (Array.getElem?_eq_some_iff.1 h3).1, (World.putObj_heap_other (by omega)).trans (hk.same _ _ (Nat.le_refl _) dU rfl), (fU.trans (keepsFrom_up hk (by omega))).trans (keepsFrom_put _ (by omega)), (lU.trans (by rw [sV]; exact hz)).trans (lie_put _ (by omega))⟩
      rintro e a3 Z ⟨hp, hz⟩
      cases e with
      | normal =>
        obtain ⟨k1, k2, k3⟩ := hp
        obtain ⟨r1, r2, r3, r4, r5, r6⟩ := fin none Z k1 hz
        exact ⟨_, _, r1, .inl ⟨rfl, ⟨hI.putObj _ k3 (by omega) r2 (by rw [hat]; rfl), r3, r4⟩, hKt (hKt kU k2) (hKb _ _ _ _ (by omega) r2 (by rw [hat]; rfl) (by rw [hat]; rfl)), r5, r6⟩⟩
      | ret =>
        obtain ⟨k1, k3⟩ := hp
        obtain ⟨r1, r2, r3, r4, r5, r6⟩ := fin (some .ret) Z k1 hz
        exact ⟨_, _, r1, .inr ⟨rfl, ⟨.ret, (hIx _).putObj _ k3 (by omega) r2 (by rw [hat]; rfl), r3, r4⟩, r5, r6⟩⟩
      | exit id =>
        obtain ⟨k1, k3⟩ := hp
        obtain ⟨r1, r2, r3, r4, r5, r6⟩ := fin (some (.exit id)) Z k1 hz
        exact ⟨_, _, r1, .inr ⟨rfl, ⟨.exit id, (hIx _).putObj _ k3 (by omega) r2 (by rw [hat]; rfl), r3, r4⟩, r5, r6⟩⟩
      | goto t =>
        obtain ⟨k1, k3⟩ := hp
        obtain ⟨r1, r2, r3, r4, r5, r6⟩ := fin (some (.goto t)) Z k1 hz
        exact ⟨_, _, r1, .inr ⟨rfl, ⟨.goto t, (hIx _).putObj _ k3 (by omega) r2 (by rw [hat]; rfl), r3, r4⟩, r5, r6⟩⟩
      | panic ch => exact hp.elim
      | outgrown => exact hp.elim
    · -- behind the iterator
      rintro e Z ⟨⟨v, rfl⟩, (⟨xs, hS, hi, hl, hd⟩ | ⟨pre, hSp, c, hi, hl, hd⟩)⟩
      · have hl' := hl
        rw [hat] at hl'
        exact ⟨none, _, run_endLoop (P := P) hl' (by simp), hdone m xs _ (Nat.le_refl _) hS (hI.putObj _ hi (by omega) hl (by rw [hat]; rfl)) ((World.putObj_heap_other (by omega)).trans hd)⟩
      · have hl' := hl
        rw [hat] at hl'
        exact ⟨some c, _, run_endLoop (P := P) hl' (by simp), hstop m c pre _ (Nat.le_refl _) hSp ((hIx c).putObj _ hi (by omega) hl (by rw [hat]; rfl)) ((World.putObj_heap_other (by omega)).trans hd)⟩
end Go.Proofs.YtkngijkhhonikaaDoor

/- The program's iterator over the edges of a graph. -/





namespace Go.Proofs.YtkngijkhhonikaaDoor
open Go.RowKit Go.Shelf
attribute [local go_sem] Oper.semAt_some
set_option linter.unusedVariables false

/-- What a round over the edges keeps: the graph's box, and the graph. -/
def KeepG (B : Nat) (A : Option Addr) (c n : Nat) (L : List Int) (X Y : World) : Prop :=
  (Boxed X B 41 (.slice A n c) → Boxed Y B 41 (.slice A n c)) ∧ (Seen X A L → Seen Y A L)
/-- The edges among some pairs. -/
def edgesOf {m : Nat} (L : List Int) (l : List (Pr m)) : List (Pr m) := l.filter (fun x => bt L x.1.1 x.1.2 == 1)

theorem edgesOf_snoc {m : Nat} (L : List Int) (l : List (Pr m)) (x : Pr m) : edgesOf L (l ++ [x]) = edgesOf L l ++ (if bt L x.1.1 x.1.2 = 1 then [x] else []) := by
  unfold edgesOf
  rw [List.filter_append]
  by_cases h : bt L x.1.1 x.1.2 = 1 <;> simp [h]
theorem edgesOf_length {m : Nat} (L : List Int) (l : List (Pr m)) : (edgesOf L l).length ≤ l.length := List.length_filter_le _ _
theorem seen_own {β : Type} (A : Option Addr) (L : List Int) : Own (fun (_ : β) W => Seen W A L) := fun s X Y row hs hg hr k hk => by
  obtain ⟨b, off, hA, hlt, hc⟩ := hs k hk
  have e : Y.heap[b]? = X.heap[b]? := hg.block b hlt (fun e => by
    obtain ⟨o, ho, hco⟩ := hr b e.symm
    cases o <;> simp [World.cell?, ho, Obj.isCells] at hc hco)
  exact ⟨b, off, hA, Nat.lt_of_lt_of_le hlt hg.size, by unfold World.cell? at hc ⊢; dsimp only at hc ⊢; rw [e]; exact hc⟩
theorem ownFrom_up {β : Type} {B B' : Nat} {I : β → World → Prop} (h : OwnFrom B I) (hb : B ≤ B') : OwnFrom B' I := fun s X Y row hs hg hr => h s X Y row hs hg (fun r e => ⟨Nat.le_trans hb (hr r e).1, (hr r e).2⟩)
theorem ownFrom_map {β γ : Type} {B : Nat} {I : β → World → Prop} (h : OwnFrom B I) (f : γ → β) : OwnFrom B (fun s W => I (f s) W) := fun s X Y row hs hg hr => h (f s) X Y row hs hg hr

theorem roundIn_wide {n m : Nat} {P : Program} {l l2 : Nat} {f : FuncId} {tmps : Array Value} {assign body : Code} {w : World} {R : Ending → World → Prop} (h : RoundIn Fence.wide n P l f tmps assign body w R) : RoundIn (Fence.wide.inRound l2) m P l f tmps assign body w R :=
  ⟨h.1, fun c cs hr => h.2 c cs (by simp [Fence.room, Fence.wide])⟩

set_option maxRecDepth 100000 in
set_option maxHeartbeats 2000000 in
theorem edges_stops (A : Option Addr) (c : Nat) (L : List Int) (n : Nat) (hn : n = L.length) (hg : IsGraph L) (B : Nat) (w : World) (hB : B < w.heap.size) (hb : Boxed w B 41 (.slice A n c)) (hs : Seen w A L) :
    Outer 2 Fence.wide 5 Tryd.prog 86 #[.pointer (some ⟨B, 0, none⟩)] (encP n) (KeepG B A c n L) (fun xs => ∃ ys : List (Pr n), vals ys = rows n ∧ xs = edgesOf L ys) (fun _ => True) 15 w := fun l J Jx W hbW hJ hJx hY h0 => by
  have h1 := hg.1
  have h6 := hg.2.1
  obtain ⟨blk, off, hA0, hbl0, _⟩ := hs 0 (by omega)
  have hb1 : Boxed W B 41 (.slice A n c) := (hbW.block B hB).trans hb
  have hs1 : Seen W A L := hs.below hbW
  have HY := Lib.hid hY
  have HG := Lib.hid hg
  have HJ := Lib.hid hJ
  have HX := Lib.hid hJx
  clear hY hJ hJx hbW hg
  subst hA0
  rw [← hn] at h1 h6
  have HN := Lib.hid hn
  clear hn
  have x0 : ∀ o, (W.alloc o).cell? ⟨B, 0, none⟩ = some (.slice (some ⟨blk, off, none⟩) n c) := fun o => (hb1.alloc o).cell
  refine callsIn_of_wp_marks Tryd.func86 rfl trivial ?_ rfl
  simp only [Tryd.ntmps86, List.size_toArray, List.length_cons, List.length_nil, Nat.reduceAdd, Nat.reduceSub, Array.replicate_succ, Array.replicate_zero, List.push_toArray, List.append_toArray, List.nil_append, List.cons_append]
  gi_wp2_with (refine ⟨trivial, ?_⟩; gi_at_call 73; refine (callsIn_wide.2 (pairs_any n _)).mono ?_; rintro e w' ⟨rfl, rfl⟩)
  obtain ⟨W1, e1⟩ : ∃ W1, W1 = (W.alloc (.cells #[.func (.yield l) #[] #[]] 52)).alloc (.cells #[.int .i64 n] 3) := ⟨_, rfl⟩
  have s1 : W1.heap.size = W.heap.size + 2 := by rw [e1]; simp
  have i1 : J [] W1 := by rw [e1]; exact HJ.out.alloc _ (HJ.out.alloc _ h0)
  have y1 : Boxed W1 W.heap.size 52 (.func (.yield l) #[] #[]) := by rw [e1]; exact (Boxed.new W _ _).alloc _
  have g1 : Boxed W1 B 41 (.slice (some ⟨blk, off, none⟩) n c) := by rw [e1]; exact (hb1.alloc _).alloc _
  have q1 : Seen W1 (some ⟨blk, off, none⟩) L := hs1.below (by rw [e1]; exact ((Below.refl _ W).alloc (Nat.le_refl _) _).alloc (by simp) _)
  have m1 : W1.cell? ⟨W.heap.size + 1, 0, none⟩ = some (.int .i64 n) := by
    rw [e1]; have h := Boxed.new (W.alloc (.cells #[.func (.yield l) #[] #[]] 52)) 3 (.int .i64 n); rw [World.size_alloc] at h; exact h.cell
  rw [← e1]
  clear e1 x0
  obtain ⟨M, eM⟩ : ∃ M, M = W.heap.size := ⟨_, rfl⟩
  have hBM : B < M := by rw [eM]; exact hb1.lt
  rw [← eM] at s1 y1 m1 HJ HX HY ⊢
  clear eM
  refine wpIn_rangeFunc_ownG (α := Pr n) rfl (by omega) (gf := 87) (lb := #[.pointer (some ⟨M + 1, 0, none⟩)]) rfl trivial (enters_of Tryd.func87 (by kernel_rfl) rfl)
    (pairs_stops Fence.wide _ trivial rfl (by omega) (M + 1) n h6 W1 (by omega) m1) (fun _ _ => trivial) (fun _ _ _ _ _ _ _ _ => trivial) (Below.refl _ _) (fun _ => rfl)
    (fun pre Z => J (edgesOf L pre) Z ∧ (Boxed Z M 52 (.func (.yield l) #[] #[]) ∧ (Boxed Z B 41 (.slice (some ⟨blk, off, none⟩) n c) ∧ Seen Z (some ⟨blk, off, none⟩) L)))
    (fun cd pre Z => cd = .ret ∧ Jx (edgesOf L pre) Z)
    (OwnFrom.and (ownFrom_map (ownFrom_up HJ.out (by omega)) _) (OwnFrom.and (Own.from (boxed_own _ _ _) _) (OwnFrom.and (Own.from (boxed_own _ _ _) _) (Own.from (seen_own _ _) _))))
    (fun cd => OwnFrom.and (ownFrom_pure _ _) (ownFrom_map (ownFrom_up HX.out (by omega)) _))
    ⟨i1, y1, g1, q1⟩
    (fun x => { tmps := #[.func (.yield l) #[] #[], .pointer (some ⟨B, 0, none⟩), .pointer (some ⟨M, 0, none⟩), .int .i64 (x.1.1 : Int), .int .i64 (x.1.2 : Int), .slice (some ⟨blk, off, none⟩) n c, .int .i64 n,
      .func (.func 87) #[] #[.pointer (some ⟨M + 1, 0, none⟩)], .int .i64 (x.1.1 : Int), .int .i64 (x.1.2 : Int), undef, undef, undef, undef, undef, undef, undef, undef, undef, undef, undef], defers := [] }) ?assign ?body ?done ?stop
  case assign =>
    intro l x W K hK
    gi_wp2
    exact hK
  case body =>
    rintro l2 pre x Wr ⟨hj, hy, hgr, hse⟩ hlen
    obtain ⟨⟨u, v⟩, hu, hv⟩ := x
    dsimp only at hu hv ⊢
    have hsn := edgesOf_snoc L pre (⟨(u, v), hu, hv⟩ : Pr n)
    dsimp only at hsn
    obtain ⟨blk1, off1, hA1, hbl1, hc1⟩ := hse u (by have := HN.out; omega)
    have e1 : blk = blk1 ∧ off = off1 := by injection hA1 with e; injection e with e1 e2; exact ⟨e1, e2⟩
    obtain ⟨rfl, rfl⟩ := e1
    have hin := (HG.out.2.2 u (by have := HN.out; omega)).1
    have hX := ent_int hin
    have hXl := ent_lt hin
    have h64 := two_le (n := L.length) (by have := HN.out; omega)
    unfold bt at hsn
    obtain ⟨X, eX⟩ : ∃ X, X = ent L u := ⟨_, rfl⟩
    rw [← eX] at hX hXl hsn
    rw [hX] at hc1
    have hXs : X < 1048576 := by omega
    have hvs40 : v < 40 := by omega
    have hun : u < n := by omega
    have zg := hgr.cell
    have zy := hy.cell
    have hl15 : (edgesOf L pre).length < 15 := by have := edgesOf_length L pre; omega
    have HSN := Lib.hid hsn
    clear hin hX hXl h64 eX hsn hA1 hlen
    by_cases hbit : X / 2 ^ v % 2 = 1
    · have hbb : (X / 2 ^ v % 2 == 1) = true := by simp [hbit]
      have hs2 : edgesOf L (pre ++ [(⟨(u, v), hu, hv⟩ : Pr n)]) = edgesOf L pre ++ [(⟨(u, v), hu, hv⟩ : Pr n)] := by rw [HSN.out, if_pos hbit]
      have HS2 := Lib.hid hs2
      clear hbit hs2
      obtain ⟨fn, tmps, assign, body, hyy, hR⟩ := HY.out (edgesOf L pre) ⟨(u, v), hu, hv⟩ Wr hj hl15
      dsimp only [encP] at hyy
      gi_wp2_with (refine ⟨trivial, ?_⟩; gi_at_call 63; refine (CallsIn.inRound l2 (callsIn_wide.2 (edge_any blk off n c u v X _ hXs hun hvs40 hc1))).mono ?_; rw [hbb]; rintro e w' ⟨rfl, rfl⟩)
      refine (roundIn_wide hR).mono ?_
      rintro e W3 (⟨rfl, a1, a2, a3, a4⟩ | ⟨rfl, a1, a3, a4⟩)
      · gi_wp2
        refine ⟨keepsFrom_up a3 (by omega), trivial, ?_, a4 M _ (Nat.le_refl _) (by omega) hy, a2.1 hgr, a2.2 hse⟩
        rw [HS2.out]; exact a1
      · gi_wp2
        refine ⟨keepsFrom_up a3 (by omega), rfl, ?_⟩
        rw [HS2.out]; exact a1
    · have hbb : (X / 2 ^ v % 2 == 1) = false := by simp [hbit]
      have hs2 : edgesOf L (pre ++ [(⟨(u, v), hu, hv⟩ : Pr n)]) = edgesOf L pre := by rw [HSN.out, if_neg hbit, List.append_nil]
      have HS2 := Lib.hid hs2
      clear hbit hs2
      gi_wp2_with (refine ⟨trivial, ?_⟩; gi_at_call 63; refine (CallsIn.inRound l2 (callsIn_wide.2 (edge_any blk off n c u v X _ hXs hun hvs40 hc1))).mono ?_; rw [hbb]; rintro e w' ⟨rfl, rfl⟩)
      refine ⟨by simp, ?_⟩
      gi_wp2
      refine ⟨KeepsFrom.refl _ _, trivial, ?_, hy, hgr, hse⟩
      rw [HS2.out]; exact hj
  case done =>
    rintro D xs Z hD hS ⟨hj, hy, hgr, hse⟩ hK
    gi_wp2
    refine ⟨by simp, .inl ⟨_, _, rfl, run_takeDeferred hK, ?_⟩⟩
    refine ⟨_, results_none rfl _ _ _, ?_⟩
    exact ⟨⟨_, rfl⟩, .inl ⟨_, ⟨xs, hS, rfl⟩, HJ.out.putObj _ hj (by omega) hK rfl⟩⟩
  case stop =>
    rintro D cd pre Z hD _ ⟨rfl, hj⟩ hK
    gi_wp2
    refine ⟨by simp, .inl ⟨_, _, rfl, run_takeDeferred hK, ?_⟩⟩
    refine ⟨_, results_none rfl _ _ _, ?_⟩
    exact ⟨⟨_, rfl⟩, .inr ⟨_, trivial, HX.out.putObj _ hj (by omega) hK rfl⟩⟩
end Go.Proofs.YtkngijkhhonikaaDoor

/- The program's number of edges of a graph, by a range over its iterator. -/




namespace Go.Proofs.YtkngijkhhonikaaDoor
open Go.RowKit Go.Shelf
attribute [local go_sem] Oper.semAt_some
set_option linter.unusedVariables false

/-- edges hands out its iterator; the graph lies in a box. -/
theorem edges_any (A : Option Addr) (n c : Nat) (w : World) : Calls Tryd.prog 70 #[.slice A n c] w fun e w' =>
    e = .returned (.func (.func 86) #[] #[.pointer (some ⟨w.heap.size, 0, none⟩)]) ∧ w.alloc (.cells #[.slice A n c] 41) = w' := by
  have hmf : ∀ (fn : Fn) (first cap : Array Value) (w : World), (Instr.makeFunc fn first cap).run Tryd.prog w = .ok (.func fn first cap) w := fun _ _ _ _ => rfl
  go_enter Tryd.func70, Tryd.ntmps70
  go_wp2
  go_ret
  exact ⟨rfl, rfl⟩

theorem edgesOf_all {L : List Int} {n : Nat} (ys : List (Pr n)) (h : vals ys = rows n) : (edgesOf L ys).length = (edgesIn L (rows n)).length := by
  rw [← h]
  unfold edgesIn vals edgesOf
  rw [List.filter_map, List.length_map]
  rfl
theorem edgesN_eq (L : List Int) (h : L.length ≤ 6) : edgesN L = (edgesIn L (rows L.length)).length := pc_crun L _ (rows_length _ h)

theorem keepG_t {B : Nat} {A : Option Addr} {c n : Nat} {L : List Int} {X Y Z : World} (h : KeepG B A c n L X Y) (k : KeepG B A c n L Y Z) : KeepG B A c n L X Z := ⟨fun x => k.1 (h.1 x), fun x => k.2 (h.2 x)⟩
theorem keepG_b {B : Nat} {A : Option Addr} {c n : Nat} {L : List Int} (W : World) (l : Nat) (o o' : Obj) (h : W.heap[l]? = some o) (ho : o.isCells = false) : KeepG B A c n L W (W.putObj l o') :=
  ⟨fun x => (boxed_own (β := Unit) B _ (fun _ => _)).putObj (s := ()) o' x h ho, fun x => (seen_own (β := Unit) A L).putObj (s := ()) o' x h ho⟩

set_option maxRecDepth 100000 in
set_option maxHeartbeats 2000000 in
theorem implSize_in (A : Option Addr) (c : Nat) (L : List Int) (hg : IsGraph L) (w : World) (h : Seen w A L) :
    CallsIn Fence.wide 6 Tryd.prog 64 #[.slice A L.length c] w (NumB w (edgesN L)) := by
  have h1 := hg.1
  have h6 := hg.2.1
  have hE := edgesN_eq L h6
  obtain ⟨n, hn⟩ : ∃ n, n = L.length := ⟨_, rfl⟩
  rw [← hn] at h1 h6 hE ⊢
  have HN := Lib.hid hn
  have H := Lib.hid h
  have HG := Lib.hid hg
  have HE := Lib.hid hE
  clear h hg hn hE
  refine callsIn_of_wp_marks Tryd.func64 rfl trivial ?_ rfl
  simp only [Tryd.ntmps64, List.size_toArray, List.length_cons, List.length_nil, Nat.reduceAdd, Nat.reduceSub, Array.replicate_succ, Array.replicate_zero, List.push_toArray, List.append_toArray, List.nil_append, List.cons_append]
  gi_wp2_with (refine ⟨trivial, ?_⟩; gi_at_call 70; refine (callsIn_wide.2 (edges_any _ _ _ _)).mono ?_; rintro e w' ⟨rfl, rfl⟩)
  obtain ⟨W, eW⟩ : ∃ W, W = (w.alloc (.cells #[.int .i64 0] 3)).alloc (.cells #[.slice A n c] 41) := ⟨_, rfl⟩
  have sW : W.heap.size = w.heap.size + 1 + 1 := by rw [eW]; simp
  have hBW : Below w.heap.size w W := by rw [eW]; exact ((Below.refl _ w).alloc (Nat.le_refl _) _).alloc (by simp) _
  have b0 : Boxed W w.heap.size 3 (.int .i64 0) := by rw [eW]; exact (Boxed.new w _ _).alloc _
  have b1 : Boxed W (w.heap.size + 1) 41 (.slice A n c) := by
    rw [eW]; have h := Boxed.new (w.alloc (.cells #[.int .i64 0] 3)) 41 (.slice A n c); rw [World.size_alloc] at h; exact h
  rw [← eW]
  clear eW
  obtain ⟨n₀, en⟩ : ∃ n₀, n₀ = w.heap.size := ⟨_, rfl⟩
  rw [← en] at sW hBW b0 b1 ⊢
  have hle : n₀ ≤ w.heap.size := by omega
  have EN := Lib.hid en
  have hsW : Seen W A L := H.out.below (by rw [← en]; exact hBW)
  clear en
  refine wpIn_outer (α := Pr n) rfl (by omega) (gf := 86) (lb := #[.pointer (some ⟨n₀ + 1, 0, none⟩)]) rfl trivial (enters_of Tryd.func86 (by kernel_rfl) rfl)
    (edges_stops A c L n HN.out HG.out (n₀ + 1) W (by omega) b1 hsW) keepG_t (fun W l o o' _ ho hc _ => keepG_b W l o o' ho hc) (Below.refl _ _) (fun _ => rfl)
    (fun pre Z => (Boxed Z n₀ 3 (.int .i64 (pre.length : Nat)) ∧ Boxed Z (n₀ + 1) 41 (.slice A n c)) ∧ Below n₀ w Z) (fun _ _ _ => False)
    (OwnFrom.and (OwnFrom.and (Own.from (boxed_own _ _ _) _) (Own.from (boxed_own _ _ _) _)) (ownFrom_below hle (by omega))) (fun _ _ _ _ _ hs _ _ => hs)
    ⟨⟨b0, b1⟩, hBW⟩
    (fun x => { tmps := #[.slice A n c, undef, .int .i64 0, .pointer (some ⟨n₀, 0, none⟩), .slice A n c,
      .func (.func 86) #[] #[.pointer (some ⟨n₀ + 1, 0, none⟩)], .int .i64 (x.1.1 : Int), .int .i64 (x.1.2 : Int), undef, undef, undef], defers := [] }) ?assign ?body ?done ?stop
  case assign =>
    intro l x W K hK
    gi_wp2
    simpa [encP] using hK
  case body =>
    rintro l pre x Z ⟨⟨c0, c1⟩, hB⟩ hlen
    obtain ⟨q, eq⟩ : ∃ q, q = pre.length := ⟨_, rfl⟩
    have hk1 : (pre ++ [x]).length = q + 1 := by rw [List.length_append, eq]; rfl
    rw [← eq] at c0 hlen
    have z0 := c0.cell
    have y0 := c0.frozen
    have K1 := Lib.hid hk1
    clear eq hk1
    gi_wp2
    have hB2 : Below n₀ w (Z.setCell ⟨n₀, 0, none⟩ (.int .i64 ((q + 1 : Nat) : Int))) := hB.setCell (p := ⟨n₀, 0, none⟩) (Nat.le_refl _) _
    have hG2 : Boxed (Z.setCell ⟨n₀, 0, none⟩ (.int .i64 ((q + 1 : Nat) : Int))) (n₀ + 1) 41 (.slice A n c) := c1.other (by omega) _
    refine ⟨⟨(KeepsOthers.setCell _ _ _).from _, ⟨fun _ => hG2, fun _ => H.out.below (by rw [← EN.out]; exact hB2)⟩, ⟨?_, hG2⟩, hB2⟩, ?_⟩
    · rw [K1.out]; exact c0.set _
    · intro k o h1 _ h3
      exact (Below.heap_setCell _ _ _ k (fun e => by dsimp only at e; omega)).trans h3
  case done =>
    rintro D xs Z hD hS ⟨⟨c0, c1⟩, hB⟩ hK
    have z0 := c0.cell
    have HS := Lib.hid hS
    clear hS
    gi_wp2
    refine ⟨by simp, .inl ⟨_, _, rfl, run_takeDeferred hK, ?_⟩⟩
    refine ⟨_, results_tmp rfl _ _ _, ?_⟩
    refine ⟨?_, ?_⟩
    · obtain ⟨ys, hy, rfl⟩ := HS.out
      rw [HE.out, ← edgesOf_all ys hy]
      rfl
    · rw [← EN.out]
      exact hB.trans (belowK_b (w := w) hle Z D _ _ (by have := EN.out; omega) hK rfl rfl)
  case stop =>
    rintro D cd pre W _ _ h _
    exact h.elim
end Go.Proofs.YtkngijkhhonikaaDoor

/- The model's number of edges of a list that is a graph. -/



namespace Go.Proofs.YtkngijkhhonikaaDoor
open Go.RowKit
set_option linter.unusedVariables false
set_option maxRecDepth 100000

theorem specEdges_seen (A : Option Addr) (c : Nat) (L : List Int) (hg : IsGraph L) (w : World) (h : Seen w A L) :
    Calls Tryd.prog 66 #[.slice A L.length c] w (Num w (edgesN L)) := by
  have H := Lib.hid (specCode_seen A c L hg w h)
  have hx : codeOf L < 32768 := crun_small L _ (rows_length L.length hg.2.1)
  have hu : edgesN L = pcf 15 (codeOf L) := rfl
  rw [hu]
  obtain ⟨x, ex⟩ : ∃ x, x = codeOf L := ⟨_, rfl⟩
  rw [← ex] at H hx ⊢
  clear hg h ex hu
  go_enter Tryd.func66, Tryd.ntmps66
  go_wp2_with fail
  refine H.out.mono ?_
  rintro e w1 ⟨rfl, rfl⟩
  go_wp2_with fail
  refine (size_code x hx _).mono ?_
  rintro e w2 ⟨rfl, rfl⟩
  go_wp2
  go_ret
  exact ⟨rfl, rfl⟩

end Go.Proofs.YtkngijkhhonikaaDoor

/- Trees: the program's isTree and TreeIn, the model's l9Tree and TreeIn, at each list. -/




namespace Go.Proofs.YtkngijkhhonikaaDoor
open Go Go.RowKit
set_option linter.unusedVariables false
set_option maxRecDepth 100000

/-- A linked graph with one edge less than nodes. -/
def IsTree (L : List Int) : Prop := IsLinked L ∧ edgesN L + 1 = L.length

set_option maxHeartbeats 1000000 in
theorem isTree_any (A : Option Addr) (c : Nat) (L : List Int) (hg : IsGraph L) (b : Bool) (hb : b = true ↔ IsTree L) (w : World) (h : Seen w A L) (hT : Tab w) :
    Calls Tryd.prog 35 #[.slice A L.length c] w (Said1 w b) := by
  have h1 := hg.1
  have h6 := hg.2.1
  have h2 := hT.lt
  have H1 := Lib.hid (callsIn_wide.1 (implSize_in A c L hg w h))
  have H2 := Lib.hid (fun w1 (b : Below w.heap.size w w1) => linked_any A c L hg w1 (h.below b) (hT.below b (by omega)))
  obtain ⟨q, eq⟩ : ∃ q, q = decide (turns L L.length = 2 ^ L.length - 1) := ⟨_, rfl⟩
  have hq : q = true ↔ IsLinked L := by rw [eq, decide_eq_true_eq]; exact ⟨fun h => ⟨hg, h⟩, fun h => h.2⟩
  rw [← eq] at H2
  obtain ⟨p, ep⟩ : ∃ p, p = edgesN L := ⟨_, rfl⟩
  have hbb : b = (decide (p + 1 = L.length) && q) := by
    rw [Bool.eq_iff_iff, hb, Bool.and_eq_true, decide_eq_true_eq, hq, ep]
    exact ⟨fun h => ⟨h.2, h.1⟩, fun h => ⟨h.2, h.1⟩⟩
  rw [← ep] at H1
  obtain ⟨n, hn⟩ : ∃ n, n = L.length := ⟨_, rfl⟩
  rw [← hn] at h1 h6 H1 H2 hbb ⊢
  obtain ⟨m, hm⟩ : ∃ m : Nat, (n : Int) - 1 = (m : Int) := ⟨n - 1, by omega⟩
  have hw : wrap64 ((n : Int) - 1) = (m : Int) := by unfold wrap64; omega
  have e1 : ((p : Int) == (m : Int)) = decide (p + 1 = n) := by rw [Bool.eq_iff_iff]; simp; omega
  obtain ⟨t, et⟩ : ∃ t, t = decide (p + 1 = n) := ⟨_, rfl⟩
  rw [← et] at e1 hbb
  have HB := Lib.hid hbb
  clear hb hg h hT eq hq ep hn hbb et
  go_enter Tryd.func35, Tryd.ntmps35
  go_wp2_with fail
  refine H1.out.mono ?_
  rintro e w1 ⟨rfl, b1⟩
  cases t with
  | false =>
    go_wp2
    go_ret
    exact ⟨by rw [HB.out]; rfl, b1⟩
  | true =>
    go_wp2_with fail
    refine (H2.out w1 b1).mono ?_
    rintro e w2 ⟨rfl, b2⟩
    go_wp2
    go_ret
    exact ⟨by rw [HB.out]; rfl, b1.trans (b2.mono b1.size)⟩

set_option maxHeartbeats 1000000 in
theorem implTreeIn_any (B : Nat) (v : Value) (L : List Int) (b : Bool) (hb : b = true ↔ IsTree L) (w : World) (h : Row w B v L) (hT : Tab w) :
    Calls Tryd.prog 11 #[v] w (Said1 w b) := by
  by_cases hL : IsGraph L
  · have h2 := hT.lt
    have H1 := Lib.hid (asG_graph B v L hL w h hT)
    obtain ⟨A, c, rfl, hs⟩ := h.seen
    have H2 := Lib.hid (fun w1 (k : Below w.heap.size w w1) => isTree_any A c L hL b hb w1 (hs.below k) (hT.below k (by omega)))
    clear hL h hs hT hb
    go_enter Tryd.func11, Tryd.ntmps11
    go_wp2_with fail
    refine H1.out.mono ?_
    rintro e w1 ⟨rfl, b1⟩
    go_wp2_with fail
    refine (H2.out w1 b1).mono ?_
    rintro e w2 ⟨rfl, b3⟩
    go_wp2
    go_ret
    exact ⟨rfl, b1.trans (b3.mono b1.size)⟩
  · have e : b = false := by
      cases b
      · rfl
      · exact absurd (hb.1 rfl).1.1 hL
    subst e
    have H1 := Lib.hid (asG_none B v L hL w h hT)
    clear hL h hb
    go_enter Tryd.func11, Tryd.ntmps11
    go_wp2_with fail
    refine H1.out.mono ?_
    rintro e w1 ⟨rfl, b1⟩
    go_wp2
    go_ret
    exact ⟨rfl, b1⟩

open Classical in
set_option maxHeartbeats 1000000 in
theorem l9Tree_any (B : Nat) (v : Value) (L : List Int) (b : Bool) (hb : b = true ↔ IsTree L) (w : World) (h : Row w B v L) :
    Calls Tryd.prog 36 #[v] w (Looked w b) := by
  obtain ⟨k, hk⟩ : ∃ k : Bool, k = true ↔ IsLinked L := ⟨decide (IsLinked L), by simp⟩
  have H1 := Lib.hid (specLinked_any B v L k hk w h)
  obtain ⟨A, c, rfl, hs⟩ := h.seen
  have h' := h
  cases k with
  | false =>
    have e : b = false := by
      cases b
      · rfl
      · exact absurd (hk.2 (hb.1 rfl).1) (by simp)
    subst e
    clear hb h hs h' hk
    go_enter Tryd.func36, Tryd.ntmps36
    go_wp2_with fail
    refine H1.out.mono ?_
    rintro e w1 ⟨rfl, d1, rfl⟩
    go_wp2
    go_ret
    exact ⟨rfl, d1, rfl⟩
  | true =>
    have hl : IsLinked L := hk.1 rfl
    have hg : IsGraph L := hl.1
    have h1 := hg.1
    have h6 := hg.2.1
    have H2 := Lib.hid (fun d => specEdges_seen A c L hg (w.drewN d) (fun k hk => by obtain ⟨b, off, a, lt, hc⟩ := hs k hk; exact ⟨b, off, a, lt, hc⟩))
    obtain ⟨p, ep⟩ : ∃ p, p = edgesN L := ⟨_, rfl⟩
    have hbb : b = decide (p + 1 = L.length) := by
      rw [Bool.eq_iff_iff, hb, decide_eq_true_eq, ep]
      exact ⟨fun h => h.2, fun h => ⟨hl, h⟩⟩
    rw [← ep] at H2
    obtain ⟨n, hn⟩ : ∃ n, n = L.length := ⟨_, rfl⟩
    rw [← hn] at h1 h6 H1 H2 hbb ⊢
    obtain ⟨m, hm⟩ : ∃ m : Nat, (n : Int) - 1 = (m : Int) := ⟨n - 1, by omega⟩
    have hw : wrap64 ((n : Int) - 1) = (m : Int) := by unfold wrap64; omega
    have e1 : ((p : Int) == (m : Int)) = b := by rw [hbb, Bool.eq_iff_iff]; simp; omega
    clear hb h hs h' hk hl hg hbb ep hn
    go_enter Tryd.func36, Tryd.ntmps36
    go_wp2_with fail
    refine H1.out.mono ?_
    rintro e w1 ⟨rfl, d1, rfl⟩
    go_wp2_with fail
    refine (H2.out d1).mono ?_
    rintro e w2 ⟨rfl, rfl⟩
    go_wp2
    go_ret
    exact ⟨rfl, d1, rfl⟩

theorem specTreeIn_any (B : Nat) (v : Value) (L : List Int) (b : Bool) (hb : b = true ↔ IsTree L) (w : World) (h : Row w B v L) :
    Calls Tryd.prog 12 #[v] w (Looked w b) := by
  have H1 := Lib.hid (l9Tree_any B v L b hb w h)
  clear hb h
  go_enter Tryd.func12, Tryd.ntmps12
  go_wp2_with fail
  refine H1.out.mono ?_
  rintro e w1 ⟨rfl, d1, rfl⟩
  go_wp2
  go_ret
  exact ⟨rfl, d1, rfl⟩
end Go.Proofs.YtkngijkhhonikaaDoor
