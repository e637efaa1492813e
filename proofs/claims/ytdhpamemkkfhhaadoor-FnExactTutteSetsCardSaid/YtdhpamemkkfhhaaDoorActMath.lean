/- Active edges of forests: the program's way, by links, and the model's, by ranks, count the same. Plain mathematics. -/
import Derived.Test.YtdhpamemkkfhhaaDoorRankMath
import Derived.Test.YtdhpamemkkfhhaaDoorBaseA
import Derived.Test.YtdhpamemkkfhhaaDoorLess
namespace Go.Proofs.YtdhpamemkkfhhaaDoor
open Go Go.RowKit
set_option linter.unusedVariables false
set_option maxRecDepth 100000

def bitN (x i : Nat) : Nat := x / 2 ^ i % 2
theorem bitN_le (x i : Nat) : bitN x i ≤ 1 := by unfold bitN; omega
theorem bitN_zero {x i : Nat} (h : x < 2 ^ i) : bitN x i = 0 := by unfold bitN; rw [Nat.div_eq_of_lt h]
/-- For all numbers below one. -/
def allN (p : Nat → Bool) (n : Nat) : Bool := Nat.rec (motive := fun _ => Bool) true (fun k r => p k && r) n
theorem allN_spec {p : Nat → Bool} {n : Nat} (h : allN p n = true) : ∀ k, k < n → p k = true := by
  induction n with
  | zero => intro k hk; omega
  | succ n ih =>
    intro k hk
    have h' : (p n && allN p n) = true := h
    rw [Bool.and_eq_true] at h'
    by_cases e : k = n
    · rw [e]; exact h'.1
    · exact ih h'.2 k (by omega)

/-- The program's step at an edge's place. -/
def actStep (C F : Nat) (wb : Nat × Nat) (i : Nat) : Nat × Nat :=
  if bitN F i = 1 then (if ldT (less F (2 ^ i) ||| (C &&& (2 ^ i - 1))) i = 1 then wb else (wb.1 + 1, wb.2))
  else if ldT (less F (C &&& (2 ^ i - 1))) i = 1 then (wb.1, wb.2 + 1) else wb
def placeOf (e : Nat × Nat) : Nat := tri e.2 + e.1
def actRun (C F : Nat) (es : List (Nat × Nat)) : Nat × Nat := es.foldl (fun wb e => actStep C F wb (placeOf e)) (0, 0)
theorem actRun_snoc (C F : Nat) (es : List (Nat × Nat)) (e : Nat × Nat) : actRun C F (es ++ [e]) = actStep C F (actRun C F es) (placeOf e) := by simp [actRun]
def edgesC (n C : Nat) : List (Nat × Nat) := (rows n).filter fun e => bitN C (placeOf e) == 1
def actP (C F : Nat) : Nat × Nat := actRun C F (edgesC 5 C)
theorem rows_cut : ∀ n : Fin 6, rows 5 = rows n.val ++ (rows 5).drop (rows n.val).length ∧ ((rows 5).drop (rows n.val).length).all (fun e => decide (tri n.val ≤ placeOf e)) = true := by decide
theorem edgesC_five {n C : Nat} (hn : n ≤ 5) (h1 : 1 ≤ n) (hC : C < codesN n) : edgesC n C = edgesC 5 C := by
  obtain ⟨h2, h3⟩ := rows_cut ⟨n, by omega⟩
  dsimp only at h2 h3
  have h4 := codesN_eq ⟨n, by omega⟩ h1
  dsimp only at h4
  unfold edgesC
  rw [h2, List.filter_append]
  have e : ((rows 5).drop (rows n).length).filter (fun e => bitN C (placeOf e) == 1) = [] := by
    refine List.filter_eq_nil_iff.2 fun e he => ?_
    have h5 := List.all_eq_true.1 h3 e he
    rw [decide_eq_true_eq] at h5
    have h6 : C < 2 ^ placeOf e := by
      have := Nat.pow_le_pow_right (n := 2) (by omega) h5
      omega
    rw [bitN_zero h6]
    decide
  rw [e, List.append_nil]

/-- The model's way. -/
def firstTo (C F e : Nat) : Nat → Bool
  | 0 => true
  | f + 1 => if bitN C f = 0 ∨ bitN F f = bitN F e then firstTo C F e f else if rkT (F ^^^ 2 ^ e ^^^ 2 ^ f) = rkT C then false else firstTo C F e f
def actTo (C F : Nat) : Nat → Nat × Nat
  | 0 => (0, 0)
  | e + 1 => if bitN C e = 0 then actTo C F e else if firstTo C F e e = true then (if bitN F e = 1 then ((actTo C F e).1 + 1, (actTo C F e).2) else ((actTo C F e).1, (actTo C F e).2 + 1)) else actTo C F e
theorem actTo_top {C F e : Nat} (h : C < 2 ^ e) (k : Nat) : actTo C F (e + k) = actTo C F e := by
  induction k with
  | zero => rfl
  | succ k ih =>
    show (if bitN C (e + k) = 0 then actTo C F (e + k) else _) = _
    rw [if_pos (bitN_zero (Nat.lt_of_lt_of_le h (Nat.pow_le_pow_right (by omega) (by omega)))), ih]
theorem actTo_le (C F e : Nat) : (actTo C F e).1 ≤ e ∧ (actTo C F e).2 ≤ e := by
  induction e with
  | zero => exact ⟨Nat.le_refl _, Nat.le_refl _⟩
  | succ e ih =>
    unfold actTo
    split
    · omega
    · split
      · split <;> dsimp only <;> omega
      · omega
/-- A forest of the edges of a code. -/
def forB (C F : Nat) : Bool := pcf 15 F == rkT C && rkT F == rkT C
def actOk (F : Nat) : Bool :=
  if pcf 15 F == rkT F then allN (fun C => if F &&& C == F then (if rkT C == rkT F then actP C F == actTo C F 10 else true) else true) 1024 else true
end Go.Proofs.YtdhpamemkkfhhaaDoor
