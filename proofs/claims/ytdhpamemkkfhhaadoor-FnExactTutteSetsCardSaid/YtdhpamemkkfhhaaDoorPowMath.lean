/- Powers: sums and products of rows of numbers and of rows of rows, as the program computes them. Plain mathematics. -/
import Derived.Test.YtdhpamemkkfhhaaDoorBaseA
namespace Go.Proofs.YtdhpamemkkfhhaaDoor
open Go Go.RowKit
set_option linter.unusedVariables false

def plusTo {α : Type} (f : α → α → α) (z : α) (p q : List α) : Nat → List α
  | 0 => p
  | i + 1 => (plusTo f z p q i).set i (f ((plusTo f z p q i)[i]?.getD z) (q[i]?.getD z))
theorem plusTo_length {α : Type} (f : α → α → α) (z : α) (p q : List α) (i : Nat) : (plusTo f z p q i).length = p.length := by
  induction i with
  | zero => rfl
  | succ i ih => unfold plusTo; rw [List.length_set, ih]
theorem plusTo_get {α : Type} (f : α → α → α) (z : α) (p q : List α) (i k : Nat) (h : i ≤ k) : (plusTo f z p q i)[k]? = p[k]? := by
  induction i with
  | zero => rfl
  | succ i ih =>
    have hne : i ≠ k := by omega
    unfold plusTo
    rw [List.getElem?_set_ne hne]
    exact ih (by omega)
/-- Rows of at most some length. -/
def RowsLe (T : List (List Int)) (m : Nat) : Prop := ∀ k : Nat, (T[k]?.getD []).length ≤ m
def plusG {α : Type} (f : α → α → α) (z : α) (p q : List α) : List α := if p.length < q.length then plusTo f z q p p.length else plusTo f z p q q.length
theorem plusG_length {α : Type} (f : α → α → α) (z : α) (p q : List α) : (plusG f z p q).length = max p.length q.length := by
  unfold plusG
  split <;> rw [plusTo_length] <;> omega
def plusR (p q : List Int) : List Int := plusG (fun a b => wrap64 (a + b)) 0 p q
def plusT (p q : List (List Int)) : List (List Int) := plusG plusR [] p q

def timIn {α : Type} (add mul : α → α → α) (z a : α) (P q : List α) (i : Nat) : Nat → List α
  | 0 => P
  | j + 1 => (timIn add mul z a P q i j).set (i + j) (add ((timIn add mul z a P q i j)[i + j]?.getD z) (mul a (q[j]?.getD z)))
def timOut {α : Type} (add mul : α → α → α) (z : α) (p q : List α) : Nat → List α
  | 0 => List.replicate (p.length + q.length - 1) z
  | i + 1 => timIn add mul z (p[i]?.getD z) (timOut add mul z p q i) q i q.length
def timesG {α : Type} (add mul : α → α → α) (z : α) (p q : List α) : List α := if p.length = 0 ∨ q.length = 0 then [] else timOut add mul z p q p.length
theorem timIn_length {α : Type} (add mul : α → α → α) (z a : α) (P q : List α) (i j : Nat) : (timIn add mul z a P q i j).length = P.length := by
  induction j with
  | zero => rfl
  | succ j ih => unfold timIn; rw [List.length_set, ih]
theorem timOut_length {α : Type} (add mul : α → α → α) (z : α) (p q : List α) (i : Nat) : (timOut add mul z p q i).length = p.length + q.length - 1 := by
  induction i with
  | zero => simp [timOut]
  | succ i ih => unfold timOut; rw [timIn_length, ih]
def timesR (p q : List Int) : List Int := timesG (fun a b => wrap64 (a + b)) (fun a b => wrap64 (a * b)) 0 p q
theorem timesR_length (p q : List Int) : (timesR p q).length ≤ p.length + q.length := by
  unfold timesR timesG
  split
  · simp
  · rw [timOut_length]; omega
theorem plusR_length (p q : List Int) : (plusR p q).length = max p.length q.length := plusG_length _ _ _ _
theorem rowsLe_set {T : List (List Int)} {m j : Nat} {x : List Int} (h : RowsLe T m) (hx : x.length ≤ m) : RowsLe (T.set j x) m := fun k => by
  rw [List.getElem?_set]
  split
  · split
    · exact hx
    · simp
  · exact h k
theorem rowsLe_tim {p q : List (List Int)} {a b : Nat} (hp : RowsLe p a) (hq : RowsLe q b) {P : List (List Int)} (hP : RowsLe P (a + b)) {x : List Int} (hx : x.length ≤ a) (i j : Nat) : RowsLe (timIn plusR timesR [] x P q i j) (a + b) := by
  induction j with
  | zero => exact hP
  | succ j ih =>
    show RowsLe ((timIn plusR timesR [] x P q i j).set (i + j) (plusR ((timIn plusR timesR [] x P q i j)[i + j]?.getD []) (timesR x (q[j]?.getD [])))) (a + b)
    refine rowsLe_set ih ?_
    rw [plusR_length]
    have h1 := ih (i + j)
    have h2 := timesR_length x (q[j]?.getD [])
    have h3 := hq j
    omega
theorem rowsLe_out {p q : List (List Int)} {a b : Nat} (hp : RowsLe p a) (hq : RowsLe q b) (i : Nat) : RowsLe (timOut plusR timesR [] p q i) (a + b) := by
  induction i with
  | zero =>
    intro k
    show ((List.replicate (p.length + q.length - 1) ([] : List Int))[k]?.getD []).length ≤ a + b
    rw [List.getElem?_replicate]
    split <;> simp
  | succ i ih => exact rowsLe_tim hp hq ih (hp i) i q.length
def timesT (p q : List (List Int)) : List (List Int) := timesG plusR timesR [] p q
end Go.Proofs.YtdhpamemkkfhhaaDoor
