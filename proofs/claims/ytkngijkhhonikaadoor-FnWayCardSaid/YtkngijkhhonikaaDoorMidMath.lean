/- The middle of a tree: as the program takes ends out, as the model compares greatest steps. -/
import Derived.Test.YtkngijkhhonikaaDoorTreeCodes
import Derived.Test.YtkngijkhhonikaaDoorBaseW
import Derived.Test.YtkngijkhhonikaaDoorBaseG
namespace Go.Proofs.YtkngijkhhonikaaDoor
open Go Go.RowKit
set_option linter.unusedVariables false
set_option maxRecDepth 100000

/-- The program: ends of a set taken out. -/
def midS (L : List Int) (s : Nat) (vs : List Nat) : Nat := vs.foldl (fun r v => if cnt (ent L v &&& s) = 1 then less r (2 ^ v) else r) s
theorem midS_snoc (L : List Int) (s : Nat) (vs : List Nat) (v : Nat) : midS L s (vs ++ [v]) = if cnt (ent L v &&& s) = 1 then less (midS L s vs) (2 ^ v) else midS L s vs := by simp [midS]
theorem midS_le (L : List Int) (s : Nat) (vs : List Nat) : midS L s vs ≤ s := by
  induction vs using snoc_ind with
  | h0 => exact Nat.le_refl _
  | h1 l x ih =>
    rw [midS_snoc]
    split
    · exact Nat.le_trans (less_le _ _) ih
    · exact ih
def midN (L : List Int) (s : Nat) : Nat := midS L s (nodesL s)
def midF (L : List Int) : Nat → Nat → Nat
  | 0, s => s
  | k + 1, s => if cnt s ≤ 2 then s else midF L k (midN L s)
def midOk (L : List Int) : Nat → Nat → Bool
  | 0, s => Nat.ble (cnt s) 2
  | k + 1, s => Nat.ble (cnt s) 2 || (Nat.blt (midN L s) s && midOk L k (midN L s))
def midT (L : List Int) : Nat := midF L 2 (2 ^ L.length - 1)
theorem midF_end {L : List Int} {s : Nat} (h : cnt s ≤ 2) (k : Nat) : midF L k s = s := by
  cases k with
  | zero => rfl
  | succ k => simp only [midF]; rw [if_pos h]
theorem midOk_step {L : List Int} {k s : Nat} (h : midOk L k s = true) (hs : ¬ cnt s ≤ 2) : ∃ k', midOk L k' (midN L s) = true ∧ midF L k' (midN L s) = midF L k s ∧ midN L s < s := by
  cases k with
  | zero => exact absurd (Nat.le_of_ble_eq_true h) hs
  | succ k =>
    simp only [midOk, Bool.or_eq_true, Bool.and_eq_true] at h
    rcases h with h | ⟨h1, h2⟩
    · exact absurd (Nat.le_of_ble_eq_true h) hs
    · refine ⟨k, h2, by simp only [midF]; rw [if_neg hs], ?_⟩
      have := Nat.le_of_ble_eq_true h1
      omega

/-- The model: what is met by steps. -/
def nxT (L : List Int) (m : Nat) : Nat → Nat
  | 0 => m
  | j + 1 => if m / 2 ^ j % 2 = 1 then nxT L m j ||| ent L j else nxT L m j
def metT (L : List Int) (v : Nat) : Nat → Nat
  | 0 => 2 ^ v
  | k + 1 => nxT L (metT L v k) L.length
def otT (L : List Int) (v : Nat) : Nat → Nat → Nat
  | 0, _ => 0
  | k + 1, w => if metT L v (k + 1) / 2 ^ w % 2 = 1 ∧ metT L v k / 2 ^ w % 2 = 0 then k + 1 else otT L v k w
def stepsT (L : List Int) (v : Nat) : List Nat := (List.range L.length).map (otT L v L.length)
def farT (S : List Nat) : Nat → Nat
  | 0 => 0
  | j + 1 => max (farT S j) (S[j]?.getD 0)
def mdNext (n : Nat) (bs : Nat × Nat) (v f : Nat) : Nat × Nat := if f < bs.1 then (f, 2 ^ v) else if f = bs.1 then (bs.1, bs.2 ||| 2 ^ v) else bs
def mdT (L : List Int) : Nat → Nat × Nat
  | 0 => (L.length, 0)
  | v + 1 => mdNext L.length (mdT L v) v (farT (stepsT L v) L.length)
def midC (L : List Int) : Bool := midOk L 2 (2 ^ L.length - 1) && Nat.beq (midT L) (mdT L L.length).2
theorem nxT_lt {L : List Int} {m K : Nat} (hm : m < 2 ^ K) (hL : ∀ v, v < L.length → ent L v < 2 ^ K) (j : Nat) (hj : j ≤ L.length) : nxT L m j < 2 ^ K := by
  induction j with
  | zero => exact hm
  | succ j ih =>
    simp only [nxT]
    split
    · exact Nat.or_lt_two_pow (ih (by omega)) (hL j (by omega))
    · exact ih (by omega)
theorem metT_lt {L : List Int} (hg : IsGraph L) {v : Nat} (hv : v < L.length) (k : Nat) : metT L v k < 64 := by
  have h6 := hg.2.1
  have hL : ∀ v, v < L.length → ent L v < 2 ^ 6 := fun v hv => by have h1 := ent_lt (hg.2.2 v hv).1; have := two_le h6; omega
  induction k with
  | zero => exact Nat.pow_lt_pow_right (a := 2) (by omega) (show v < 6 by omega)
  | succ k ih => exact nxT_lt (K := 6) ih hL _ (Nat.le_refl _)
theorem otT_le (L : List Int) (v k w : Nat) : otT L v k w ≤ k := by
  induction k with
  | zero => exact Nat.le_refl _
  | succ k ih =>
    simp only [otT]
    split
    · omega
    · omega
/-- Places told one by one. -/
theorem upto_set (f g : Nat → Nat) (n j : Nat) : ((List.range n).map (fun w => if w < j then f w else g w)).set j (f j) = (List.range n).map (fun w => if w < j + 1 then f w else g w) := by
  refine List.ext_getElem (by simp) fun i h1 h2 => ?_
  rw [List.getElem_set]
  simp only [List.getElem_map, List.getElem_range]
  split
  · rename_i e
    subst e
    rw [if_pos (by omega)]
  · by_cases h : i < j
    · rw [if_pos h, if_pos (by omega)]
    · rw [if_neg h, if_neg (by omega)]
theorem upto_same (f g : Nat → Nat) (n j : Nat) (h : f j = g j) : (List.range n).map (fun w => if w < j then f w else g w) = (List.range n).map (fun w => if w < j + 1 then f w else g w) := by
  refine List.map_congr_left fun i _ => ?_
  by_cases hi : i < j
  · rw [if_pos hi, if_pos (by omega)]
  · rw [if_neg hi]
    by_cases e : i = j
    · subst e; rw [if_pos (by omega), h]
    · rw [if_neg (by omega)]
theorem upto_all (f g : Nat → Nat) (n : Nat) : (List.range n).map (fun w => if w < n then f w else g w) = (List.range n).map f :=
  List.map_congr_left fun i hi => if_pos (List.mem_range.1 hi)
end Go.Proofs.YtkngijkhhonikaaDoor
