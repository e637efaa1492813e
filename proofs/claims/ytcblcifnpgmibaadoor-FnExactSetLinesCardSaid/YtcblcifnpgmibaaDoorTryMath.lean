/- Names tried one behind the other, leaving off where a beginning does not fit; what a try keeps of the world. -/
import Derived.Test.YtcblcifnpgmibaaDoorBaseA
import Derived.Test.YtcblcifnpgmibaaDoorLess
import Derived.RangeFuncBox
namespace Go.Proofs.YtcblcifnpgmibaaDoor
open Go Go.RowKit
set_option linter.unusedVariables false

/-- All names that begin with P, over the nodes of s, that come to the list. -/
def dfs (fit : List (List Nat) → List Nat → Bool) : Nat → List (List Nat) → List Nat → Nat → List (List Nat)
  | 0, acc, P, _ => acc ++ [P]
  | k + 1, acc, P, s => (nodesL s).foldl (fun acc v => if fit acc (P ++ [v]) = true then dfs fit k acc (P ++ [v]) (less s (2 ^ v)) else acc) acc
def stepF (fit : List (List Nat) → List Nat → Bool) (k : Nat) (P : List Nat) (s : Nat) (acc : List (List Nat)) (v : Nat) : List (List Nat) :=
  if fit acc (P ++ [v]) = true then dfs fit k acc (P ++ [v]) (less s (2 ^ v)) else acc
def runF (fit : List (List Nat) → List Nat → Bool) (k : Nat) (P : List Nat) (s : Nat) (acc : List (List Nat)) (vs : List Nat) : List (List Nat) := vs.foldl (stepF fit k P s) acc
theorem dfs_zero (fit : List (List Nat) → List Nat → Bool) (acc : List (List Nat)) (P : List Nat) (s : Nat) : dfs fit 0 acc P s = acc ++ [P] := rfl
theorem dfs_succ (fit : List (List Nat) → List Nat → Bool) (k : Nat) (acc : List (List Nat)) (P : List Nat) (s : Nat) : dfs fit (k + 1) acc P s = runF fit k P s acc (nodesL s) := rfl
theorem runF_nil (fit : List (List Nat) → List Nat → Bool) (k : Nat) (P : List Nat) (s : Nat) (acc : List (List Nat)) : runF fit k P s acc [] = acc := rfl
theorem runF_snoc (fit : List (List Nat) → List Nat → Bool) (k : Nat) (P : List Nat) (s : Nat) (acc : List (List Nat)) (vs : List Nat) (v : Nat) : runF fit k P s acc (vs ++ [v]) = stepF fit k P s (runF fit k P s acc vs) v := by simp [runF]
theorem run_pre {f : List (List Nat) → Nat → List (List Nat)} (hf : ∀ acc v, acc <+: f acc v) (vs : List Nat) (acc : List (List Nat)) : acc <+: vs.foldl f acc := by
  induction vs generalizing acc with
  | nil => exact List.prefix_refl _
  | cons v vs ih => exact (hf acc v).trans (ih _)
theorem dfs_pre (fit : List (List Nat) → List Nat → Bool) (k : Nat) : ∀ (acc : List (List Nat)) (P : List Nat) (s : Nat), acc <+: dfs fit k acc P s := by
  induction k with
  | zero => intro acc P s; exact List.prefix_append _ _
  | succ k ih =>
    intro acc P s
    rw [dfs_succ]
    refine run_pre (fun acc v => ?_) _ _
    unfold stepF
    split
    · exact ih _ _ _
    · exact List.prefix_refl _
theorem stepF_pre (fit : List (List Nat) → List Nat → Bool) (k : Nat) (P : List Nat) (s : Nat) (acc : List (List Nat)) (v : Nat) : acc <+: stepF fit k P s acc v := by
  unfold stepF
  split
  · exact dfs_pre _ _ _ _ _
  · exact List.prefix_refl _
theorem runF_mono (fit : List (List Nat) → List Nat → Bool) (k : Nat) (P : List Nat) (s : Nat) (acc : List (List Nat)) {vs us : List Nat} (h : vs <+: us) : runF fit k P s acc vs <+: runF fit k P s acc us := by
  obtain ⟨t, rfl⟩ := h
  unfold runF
  rw [List.foldl_append]
  exact run_pre (fun acc v => stepF_pre _ _ _ _ _ _) _ _

/-! ### sets -/
theorem less_bit : ∀ (s : Fin 64) (v : Fin 6), less s.val (2 ^ v.val) < 64 ∧ (s.val / 2 ^ v.val % 2 = 1 → nodesL (less s.val (2 ^ v.val)) = (nodesL s.val).filter (fun x => x != v.val) ∧ (nodesL (less s.val (2 ^ v.val))).length + 1 = (nodesL s.val).length) := by decide +kernel
theorem nodes_none : ∀ s : Fin 64, (nodesL s.val).length = 0 → s.val = 0 := by decide +kernel
theorem less_lt (s v m : Nat) (hs : s < 2 ^ m) : less s (2 ^ v) < 2 ^ m := Nat.lt_of_le_of_lt (less_le s (2 ^ v)) hs

/-! ### what is kept -/
/-- Every block from B on lies as it lay. -/
def Rest0 (B : Nat) (X Y : World) : Prop := X.heap.size ≤ Y.heap.size ∧ ∀ (k : Nat) (o : Obj), B ≤ k → X.heap[k]? = some o → Y.heap[k]? = some o
/-- The same, but for the list in the making and its box. -/
def RestP (B : Nat) (X Y : World) : Prop := X.heap.size ≤ Y.heap.size ∧ ∀ (k : Nat) (o : Obj), B ≤ k → k ≠ B + 1 → k ≠ B + 2 → X.heap[k]? = some o → Y.heap[k]? = some o
theorem Rest0.p {B : Nat} {X Y : World} (h : Rest0 B X Y) : RestP B X Y := ⟨h.1, fun k o h1 _ _ h4 => h.2 k o h1 h4⟩
theorem RestP.refl (B : Nat) (X : World) : RestP B X X := ⟨Nat.le_refl _, fun _ _ _ _ _ h => h⟩
theorem RestP.trans {B : Nat} {X Y Z : World} (h : RestP B X Y) (k : RestP B Y Z) : RestP B X Z := ⟨Nat.le_trans h.1 k.1, fun i o h1 h2 h3 h4 => k.2 i o h1 h2 h3 (h.2 i o h1 h2 h3 h4)⟩
theorem Rest0.trans {B : Nat} {X Y Z : World} (h : Rest0 B X Y) (k : Rest0 B Y Z) : Rest0 B X Z := ⟨Nat.le_trans h.1 k.1, fun i o h1 h4 => k.2 i o h1 (h.2 i o h1 h4)⟩
theorem restP_of_grown {B : Nat} {X Y : World} {row : Option Nat} (h : X.grownBy Y row) (hr : ∀ r, row = some r → r = B + 1 ∨ r = B + 2 ∨ X.heap.size ≤ r ∨ r < B) : RestP B X Y :=
  ⟨h.size, fun k o h1 h2 h3 h4 => (h.block k (Array.getElem?_eq_some_iff.1 h4).1 (fun e => by
    have h5 := (Array.getElem?_eq_some_iff.1 h4).1
    rcases hr k e.symm with h | h | h | h <;> omega)).trans h4⟩
theorem restP_alloc (B : Nat) (X : World) (o : Obj) : RestP B X (X.alloc o) := ⟨by simp, fun k o' _ _ _ h => (Below.heap_alloc _ _ _ (Array.getElem?_eq_some_iff.1 h).1).trans h⟩
theorem restP_below {B : Nat} {X Y : World} (h : Below X.heap.size X Y) : RestP B X Y := ⟨h.size, fun k o _ _ _ h4 => (h.block k (Array.getElem?_eq_some_iff.1 h4).1).trans h4⟩
/-- Between a world and one that came out of it, but for blocks that came later. -/
theorem restP_later {B m : Nat} {X Y Z : World} (h : RestP B X Y) (hm : X.heap.size ≤ m) (hg : ∀ (k : Nat) (o : Obj), k < m → k ≠ B + 1 → k ≠ B + 2 → Y.heap[k]? = some o → Z.heap[k]? = some o) (hs : Y.heap.size ≤ Z.heap.size) : RestP B X Z :=
  ⟨Nat.le_trans h.1 hs, fun k o h1 h2 h3 h4 => hg k o (Nat.lt_of_lt_of_le (Array.getElem?_eq_some_iff.1 h4).1 hm) h2 h3 (h.2 k o h1 h2 h3 h4)⟩
theorem boxed_restP {B k : Nat} {t : TypeId} {v : Value} {X Y : World} (h : Boxed X k t v) (hr : RestP B X Y) (h1 : B ≤ k) (h2 : k ≠ B + 1) (h3 : k ≠ B + 2) : Boxed Y k t v := hr.2 k _ h1 h2 h3 h
theorem keepsFrom_restP {B b : Nat} {X Y : World} (h : RestP B X Y) (hb : B + 3 ≤ b) : KeepsFrom b X Y := ⟨h.1, fun k o h1 h2 _ => h.2 k o (by omega) (by omega) (by omega) h2⟩

/-- An object that a try never turns: cells that are no truth values. -/
def hardO : Obj → Bool
  | .cells _ t _ => decide (t ≠ 4)
  | _ => false
theorem soft_of_not_cells {o : Obj} (h : o.isCells = false) : hardO o = false := by cases o <;> first | rfl | (simp [Obj.isCells] at h)
theorem hard_boxed {X : World} {k : Nat} {t : TypeId} {v : Value} (h : Boxed X k t v) (ht : t ≠ 4) : ∃ o : Obj, X.heap[k]? = some o ∧ hardO o = true := ⟨_, h, decide_eq_true ht⟩
theorem soft_bool {X : World} {k : Nat} {v : Value} (h : Boxed X k 4 v) : ∃ o : Obj, X.heap[k]? = some o ∧ hardO o = false := ⟨_, h, rfl⟩
/-- What lay ahead of B stays; of the rest, but for the list in the making and its box, all cells that are no truth values. -/
def Soft (B : Nat) (X Y : World) : Prop := X.heap.size ≤ Y.heap.size ∧ ∀ (k : Nat) (o : Obj), X.heap[k]? = some o → (k < B ∨ (k ≠ B + 1 ∧ k ≠ B + 2 ∧ hardO o = true)) → Y.heap[k]? = some o
theorem Soft.trans {B : Nat} {X Y Z : World} (h : Soft B X Y) (k : Soft B Y Z) : Soft B X Z := ⟨Nat.le_trans h.1 k.1, fun i o hi hc => k.2 i o (h.2 i o hi hc) hc⟩
theorem Soft.drew {B : Nat} (X : World) : Soft B X X.drew := ⟨Nat.le_refl _, fun _ _ h _ => h⟩
theorem soft_rest {B : Nat} {X Y : World} (h : RestP B X Y) (hb : Below B X Y) : Soft B X Y := ⟨h.1, fun k o hk hc => by
  by_cases h1 : k < B
  · exact (hb.block k h1).trans hk
  · rcases hc with hc | ⟨h2, h3, _⟩
    · exact absurd hc h1
    · exact h.2 k o (by omega) h2 h3 hk⟩
theorem soft_new {B : Nat} {X Y : World} (h : Below X.heap.size X Y) : Soft B X Y := ⟨h.size, fun k o hk _ => (h.block k (Array.getElem?_eq_some_iff.1 hk).1).trans hk⟩
theorem soft_grown {B : Nat} {X Y : World} {row : Option Nat} (h : X.grownBy Y row) (hr : ∀ r, row = some r → B ≤ r ∧ (r = B + 1 ∨ r = B + 2 ∨ ∃ o : Obj, X.heap[r]? = some o ∧ hardO o = false)) : Soft B X Y := ⟨h.size, fun k o hk hc => by
  refine (h.block k (Array.getElem?_eq_some_iff.1 hk).1 (fun e => ?_)).trans hk
  obtain ⟨h1, h2⟩ := hr k e.symm
  rcases hc with hc | ⟨c1, c2, c3⟩
  · omega
  · rcases h2 with h2 | h2 | ⟨o', ho, hh⟩
    · exact c1 h2
    · exact c2 h2
    · rw [hk] at ho; cases ho; rw [c3] at hh; cases hh⟩
/-- The same as a caller of a loop over names sees it: the loop's own two objects lie between. -/
def SoftN (m : Nat) (X Y : World) : Prop := X.heap.size ≤ Y.heap.size ∧ ∀ (k : Nat) (o : Obj), X.heap[k]? = some o → (k < m ∨ (k ≠ m + 3 ∧ k ≠ m + 4 ∧ hardO o = true)) → Y.heap[k]? = some o
theorem softN_of {m : Nat} {X Y : World} (h : Soft (m + 2) X Y) : SoftN m X Y := ⟨h.1, fun k o hk hc => h.2 k o hk (by
  rcases hc with hc | ⟨h1, h2, h3⟩
  · exact .inl (by omega)
  · exact .inr ⟨by omega, by omega, h3⟩)⟩
theorem softN_new {m : Nat} {X Y : World} (h : Below X.heap.size X Y) : SoftN m X Y := ⟨h.size, fun k o hk _ => (h.block k (Array.getElem?_eq_some_iff.1 hk).1).trans hk⟩
theorem softN_put {m r : Nat} {X Y : World} (h : X.grownBy Y (some r)) (hm : m ≤ r) (hr : ∃ o : Obj, X.heap[r]? = some o ∧ hardO o = false) : SoftN m X Y := ⟨h.size, fun k o hk hc => by
  refine (h.block k (Array.getElem?_eq_some_iff.1 hk).1 (fun e => ?_)).trans hk
  injection e with e
  subst e
  obtain ⟨o', ho, hh⟩ := hr
  rcases hc with hc | ⟨_, _, c3⟩
  · omega
  · rw [hk] at ho; cases ho; rw [c3] at hh; cases hh⟩
theorem SoftN.box {m k : Nat} {t : TypeId} {v : Value} {X Y : World} (h : SoftN m X Y) (hb : Boxed X k t v) (hk : k < m ∨ (k ≠ m + 3 ∧ k ≠ m + 4 ∧ t ≠ 4)) : Boxed Y k t v := h.2 k _ hb (by
  rcases hk with hk | ⟨h1, h2, h3⟩
  · exact .inl hk
  · exact .inr ⟨h1, h2, decide_eq_true h3⟩)
theorem SoftN.row {m B : Nat} {v : Value} {xs : List Int} {X Y : World} (h : SoftN m X Y) (hr : Row X B v xs) (hv : ∀ g, v.ownBlock = some g → g < m ∨ (g ≠ m + 3 ∧ g ≠ m + 4)) : Row Y B v xs := by
  obtain ⟨h0, h1⟩ := hr
  refine ⟨h0, ?_⟩
  rcases h1 with h1 | ⟨g, cap, cur, a1, a2, a3, a4⟩
  · exact .inl h1
  · refine .inr ⟨g, cap, cur, a1, a2, h.2 g _ a3 ?_, a4⟩
    rcases hv g (by rw [a1]; rfl) with h2 | ⟨h2, h3⟩
    · exact .inl h2
    · exact .inr ⟨h2, h3, rfl⟩

/-- The last number of a list in the making goes. -/
theorem cut_row {W : World} {B g n : Nat} {xs : List Int} {y : Int} (h : Row W B (.slice (some ⟨g, 0, none⟩) (xs.length + 1) n) (xs ++ [y])) : Row W B (.slice (some ⟨g, 0, none⟩) xs.length n) xs := by
  obtain ⟨h1, h2⟩ := h
  rcases h2 with ⟨h3, _⟩ | ⟨g', cap, cur, h3, h4, h5, h6, h7, h8, h9⟩
  · cases h3
  · injection h3 with e1 e2 e3
    injection e1 with e1
    injection e1 with e1
    subst e1
    subst e3
    refine ⟨by simp, .inr ⟨g, n, cur, rfl, h4, h5, ?_, h7, h8, ?_⟩⟩
    · simp at h6; omega
    · have h10 := congrArg (List.take xs.length) h9
      rw [List.take_take] at h10
      simp at h10
      simpa using h10
/-- All names that fit, in order. -/
def allNames (fit : List (List Nat) → List Nat → Bool) (n : Nat) : List (List Nat) := dfs fit n [] [] (2 ^ n - 1)
end Go.Proofs.YtcblcifnpgmibaaDoor
