/- Finer colours: how many different looks are less. Plain mathematics, no condition. -/
import Derived.Test.YtnnobbbljpaieaaDoorLookMath
import Derived.Test.YtnnobbbljpaieaaDoorCompare
namespace Go.Proofs.YtnnobbbljpaieaaDoor
open Go Go.RowKit
set_option linter.unusedVariables false
set_option maxRecDepth 100000

def looksL (L C : List Int) : List (List Int) := (List.range L.length).map (lookOf L C)
/-- Each one once, as they come first. -/
def ddp (ls : List (List Int)) : List (List Int) := ls.foldl (fun acc x => if x ∈ acc then acc else acc ++ [x]) []
theorem ddp_nil : ddp [] = [] := rfl
theorem ddp_snoc (ls : List (List Int)) (x : List Int) : ddp (ls ++ [x]) = if x ∈ ddp ls then ddp ls else ddp ls ++ [x] := by
  unfold ddp
  rw [List.foldl_append]
  rfl
theorem list_snoc_ind {α : Type} {P : List α → Prop} (h0 : P []) (h1 : ∀ l x, P l → P (l ++ [x])) : ∀ l, P l := fun l => by
  have h2 : ∀ m : List α, P m.reverse := fun m => by
    induction m with
    | nil => exact h0
    | cons x m ih => rw [List.reverse_cons]; exact h1 _ _ ih
  have := h2 l.reverse
  rwa [List.reverse_reverse] at this
theorem ddp_mem (ls : List (List Int)) (y : List Int) : y ∈ ddp ls ↔ y ∈ ls := by
  refine list_snoc_ind (P := fun ls => y ∈ ddp ls ↔ y ∈ ls) (by simp [ddp]) (fun l x ih => ?_) ls
  rw [ddp_snoc, List.mem_append, List.mem_singleton]
  by_cases h : x ∈ ddp l
  · rw [if_pos h, ih]
    constructor
    · exact .inl
    · rintro (h1 | rfl)
      · exact h1
      · exact ih.1 h
  · rw [if_neg h, List.mem_append, List.mem_singleton, ih]
theorem ddp_nodup (ls : List (List Int)) : (ddp ls).Nodup := by
  refine list_snoc_ind (P := fun ls => (ddp ls).Nodup) (by simp [ddp]) (fun l x ih => ?_) ls
  rw [ddp_snoc]
  by_cases h : x ∈ ddp l
  · rw [if_pos h]; exact ih
  · rw [if_neg h]
    refine List.nodup_append.2 ⟨ih, by simp, fun a ha b hb => ?_⟩
    rw [List.mem_singleton] at hb
    subst hb
    exact fun e => h (e ▸ ha)
/-- How many different ones are less than a list. -/
def rankOf (Ls : List (List Int)) (K : List Int) : Nat := (ddp Ls).countP fun x => decide (cmpL x K < 0)
theorem rank_of_nodup {D Ls : List (List Int)} (hn : D.Nodup) (hm : ∀ x, x ∈ D ↔ x ∈ Ls) (K : List Int) : D.countP (fun x => decide (cmpL x K < 0)) = rankOf Ls K := by
  have hp : D.Perm (ddp Ls) := (List.perm_ext_iff_of_nodup hn (ddp_nodup Ls)).2 fun x => by rw [hm, ddp_mem]
  exact hp.countP_eq _
/-- The finer colours. -/
def finerL (L C : List Int) : List Int := (List.range L.length).map fun v => ((rankOf (looksL L C) (lookOf L C v) : Nat) : Int)
theorem finerL_length (L C : List Int) : (finerL L C).length = L.length := by simp [finerL]
theorem finerL_get (L C : List Int) {v : Nat} (hv : v < L.length) : (finerL L C)[v]?.getD 0 = ((rankOf (looksL L C) (lookOf L C v) : Nat) : Int) := by
  simp [finerL, hv]
theorem looksL_length (L C : List Int) : (looksL L C).length = L.length := by simp [looksL]
theorem rank_le (Ls : List (List Int)) (K : List Int) : rankOf Ls K ≤ Ls.length := by
  unfold rankOf
  refine Nat.le_trans List.countP_le_length ?_
  refine list_snoc_ind (P := fun ls => (ddp ls).length ≤ ls.length) (by simp [ddp]) (fun l x ih => ?_) Ls
  rw [ddp_snoc]
  by_cases h : x ∈ ddp l
  · rw [if_pos h]; simp; omega
  · rw [if_neg h]; simp; omega
end Go.Proofs.YtnnobbbljpaieaaDoor
