/- The table by forests, as the program adds it up; what keeps its rows small; what stays through the marks of a range. -/
import Derived.Test.YtdhpamemkkfhhaaDoorRaised
import Derived.Test.YtdhpamemkkfhhaaDoorActMath
import Derived.Test.YtdhpamemkkfhhaaDoorSubsMath
import Derived.Test.YtdhpamemkkfhhaaDoorBaseA
namespace Go.Proofs.YtdhpamemkkfhhaaDoor
open Go Go.RowKit
set_option linter.unusedVariables false
set_option maxRecDepth 100000

/-- Tables of at most m rows of at most m numbers. -/
def Small (m : Nat) (T : List (List Int)) : Prop := T.length ≤ m ∧ RowsLe T m
def smallB (m : Nat) (T : List (List Int)) : Bool := decide (T.length ≤ m) && T.all fun r => decide (r.length ≤ m)
theorem small_of {m : Nat} {T : List (List Int)} (h : smallB m T = true) : Small m T := by
  unfold smallB at h
  rw [Bool.and_eq_true, decide_eq_true_eq] at h
  refine ⟨h.1, fun k => ?_⟩
  by_cases hk : k < T.length
  · rw [List.getElem?_eq_getElem hk]
    have := List.all_eq_true.1 h.2 _ (List.getElem_mem hk)
    simpa using this
  · rw [List.getElem?_eq_none (by omega)]
    simp
theorem rowsLe_plusTo {p q : List (List Int)} {m : Nat} (hp : RowsLe p m) (hq : RowsLe q m) (i : Nat) : RowsLe (plusTo plusR [] p q i) m := by
  induction i with
  | zero => exact hp
  | succ i ih =>
    show RowsLe ((plusTo plusR [] p q i).set i (plusR ((plusTo plusR [] p q i)[i]?.getD []) (q[i]?.getD []))) m
    refine rowsLe_set ih ?_
    rw [plusR_length]
    have h1 := ih i
    have h2 := hq i
    omega
theorem small_plus {p q : List (List Int)} {m : Nat} (hp : Small m p) (hq : Small m q) : Small m (plusT p q) := by
  refine ⟨by unfold plusT; rw [plusG_length]; have := hp.1; have := hq.1; omega, ?_⟩
  unfold plusT plusG
  split
  · exact rowsLe_plusTo hq.2 hp.2 _
  · exact rowsLe_plusTo hp.2 hq.2 _

/-- All powers that come up are small. -/
theorem rows_small : ∀ i : Fin 11, ∀ j : Fin 11, smallB 12 (rXY tabX i.val tabY j.val) = true ∧ smallT (rX tabX i.val) = true ∧ smallT (rXY tabX i.val tabY j.val) = true := by decide +kernel
def monoXY (i j : Nat) : List (List Int) := rXY tabX i tabY j
theorem mono_small {i j : Nat} (hi : i ≤ 10) (hj : j ≤ 10) : Small 12 (monoXY i j) := small_of (rows_small ⟨i, by omega⟩ ⟨j, by omega⟩).1
/-- The program's sum over forests. -/
def trStep (C : Nat) (T : List (List Int)) (s : Nat) : List (List Int) := if forB C s = true then plusT T (monoXY (actP C s).1 (actP C s).2) else T
def trRun (C : Nat) (ss : List Nat) : List (List Int) := ss.foldl (trStep C) []
theorem trRun_snoc (C : Nat) (ss : List Nat) (s : Nat) : trRun C (ss ++ [s]) = trStep C (trRun C ss) s := by simp [trRun]
def treesP (C : Nat) : List (List Int) := trRun C (subsL C)
theorem rows5_small : (rows 5).length = 10 := by decide
theorem actP_le (C F : Nat) : (actP C F).1 ≤ 10 ∧ (actP C F).2 ≤ 10 := by
  have h : ∀ es : List (Nat × Nat), (actRun C F es).1 ≤ es.length ∧ (actRun C F es).2 ≤ es.length := fun es => by
    induction es using snoc_ind with
    | h0 => exact ⟨Nat.le_refl _, Nat.le_refl _⟩
    | h1 l x ih =>
      rw [actRun_snoc, List.length_append, List.length_singleton]
      unfold actStep
      repeat' split
      all_goals first | omega | (dsimp only; omega)
  have h1 := h (edgesC 5 C)
  have h2 : (edgesC 5 C).length ≤ 10 := by rw [← rows5_small]; exact List.length_filter_le _ _
  unfold actP
  omega
theorem trRun_small (C : Nat) (ss : List Nat) : Small 12 (trRun C ss) := by
  induction ss using snoc_ind with
  | h0 => exact ⟨by simp [trRun], fun k => by simp [trRun]⟩
  | h1 l x ih =>
    rw [trRun_snoc]
    unfold trStep
    split
    · exact small_plus ih (mono_small (actP_le C x).1 (actP_le C x).2)
    · exact ih

/-! ### what stays while marks come and go -/
theorem typed_kept {X Y : World} {k : Nat} {t : TypeId} {row : Option Nat} (h : TypedAt X k t) (hg : X.grownBy Y row) (hr : ∀ r, row = some r → ∃ o : Obj, X.heap[r]? = some o ∧ o.isCells = false) : TypedAt Y k t := by
  have hl := h.lt
  obtain ⟨cs, fz, h⟩ := h
  refine ⟨cs, fz, (hg.block k hl (fun e => ?_)).trans h⟩
  obtain ⟨o, o1, o2⟩ := hr k e.symm
  rw [h] at o1
  cases o1
  cases o2
theorem pv_kept {X Y : World} {v : Value} {xs : List Int} {row : Option Nat} (h : PV X v xs) (hg : X.grownBy Y row) (hr : ∀ r, row = some r → ∃ o : Obj, X.heap[r]? = some o ∧ o.isCells = false) : PV Y v xs := by
  obtain ⟨A, c, h1, h2, h3, h4⟩ := h
  exact ⟨A, c, h1, h2, seen_own (β := Unit) A xs () X Y row h3 hg hr, fun k hk => typed_kept (h4 k hk) hg hr⟩
theorem tv_kept {X Y : World} {v : Value} {T : List (List Int)} {row : Option Nat} (h : TV X v T) (hg : X.grownBy Y row) (hr : ∀ r, row = some r → ∃ o : Obj, X.heap[r]? = some o ∧ o.isCells = false) : TV Y v T := by
  obtain ⟨A, c, h1, h2, h3, h4⟩ := h
  refine ⟨A, c, h1, h2, fun k hk => ?_, fun k hk => typed_kept (h4 k hk) hg hr⟩
  obtain ⟨b, off, u, e1, e2, e3, e4⟩ := h3 k hk
  have e : Y.heap[b]? = X.heap[b]? := hg.block b e2 (fun e => by
    obtain ⟨o, ho, hco⟩ := hr b e.symm
    cases o <;> simp [World.cell?, ho, Obj.isCells] at e3 hco)
  exact ⟨b, off, u, e1, Nat.lt_of_lt_of_le e2 hg.size, by unfold World.cell? at e3 ⊢; dsimp only at e3 ⊢; rw [e]; exact e3, pv_kept e4 hg hr⟩
theorem TV.shape {w : World} {v : Value} {T : List (List Int)} (h : TV w v T) : ∃ A n c, v = .slice A n c := by
  obtain ⟨A, c, e, _⟩ := h
  exact ⟨A, _, c, e⟩
end Go.Proofs.YtdhpamemkkfhhaaDoor
