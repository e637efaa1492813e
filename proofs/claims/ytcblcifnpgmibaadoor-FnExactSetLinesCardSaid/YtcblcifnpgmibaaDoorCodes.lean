/- Names that fit, by codes. Plain mathematics, no condition. -/
import Derived.Test.YtcblcifnpgmibaaDoorAlikeMath
import Derived.Test.YtcblcifnpgmibaaDoorBaseA
namespace Go.Proofs.YtcblcifnpgmibaaDoor
open Go Go.RowKit
set_option linter.unusedVariables false
set_option maxRecDepth 100000

theorem empty_list (w : World) : Row (w.alloc (.cells #[] 3)) w.heap.size (.slice (some ⟨w.heap.size, 0, none⟩) 0 0) [] :=
  World.ownsRow_lit (base := w.heap.size) (e := 3) (size := 1) w #[] 0 (Nat.le_refl _) (by unfold maxLen; omega) rfl
def okC (L M : List Int) (P : List Nat) : Bool := codeOf (namedL L P) == codeOf M
theorem likeL_codes {L M : List Int} (hL : IsGraph L) (hM : IsGraph M) (hl : L.length = M.length) : likeL L M = (permsTo L.length L.length).filter (okC L M) := by
  rw [likeL_eq L M hL.2.1]
  refine List.filter_congr fun P hP => ?_
  have h := ok_iff hL hM hl (perms_names _ _ P hP)
  unfold okC
  rw [Bool.eq_iff_iff, h]
  simp
theorem filter_first {p : List Nat → Bool} {R : List (List Nat)} {k : Nat} (hk : k < R.length) (h0 : ∀ j, j < k → p (R[j]?.getD []) = false) (h1 : p (R[k]?.getD []) = true) : ∃ t, R.filter p = (R[k]?.getD []) :: t := by
  induction R generalizing k with
  | nil => simp at hk
  | cons x R ih =>
    cases k with
    | zero =>
      have hx : p x = true := by simpa using h1
      exact ⟨R.filter p, by simp [hx]⟩
    | succ k =>
      have hx : p x = false := by simpa using h0 0 (by omega)
      obtain ⟨t, ht⟩ := ih (k := k) (by simpa using hk) (fun j hj => by simpa using h0 (j + 1) (by omega)) (by simpa using h1)
      exact ⟨t, by simpa [List.filter_cons, hx] using ht⟩
theorem filter_none {p : List Nat → Bool} {R : List (List Nat)} (h0 : ∀ j, j < R.length → p (R[j]?.getD []) = false) : R.filter p = [] := by
  rw [List.filter_eq_nil_iff]
  intro a ha
  obtain ⟨j, hj, rfl⟩ := List.mem_iff_getElem.1 ha
  have := h0 j hj
  simp [hj] at this
  simp [this]

end Go.Proofs.YtcblcifnpgmibaaDoor
