/- strings.CutPrefix and strings.HasPrefix at one byte. -/
import Derived.Test.YtkninejoliclcaaDoorStrLay
import Derived.Test.YtkninejoliclcaaDoorBaseA
namespace Go.Proofs.YtkninejoliclcaaDoor
open Go.RowKit Go.Shelf
set_option linter.unusedVariables false
set_option maxRecDepth 100000

theorem pre_cons (c d : UInt8) (r : List UInt8) : Lib.hasPrefix (d :: r) [c] = (c == d) := by
  show (c == d && ([] : List UInt8).isPrefixOf r) = _
  rw [show ([] : List UInt8).isPrefixOf r = true by cases r <;> rfl, Bool.and_true]
theorem cut_yes (c : UInt8) (r : List UInt8) (w : World) : Calls Tryd.prog 69 #[.string ⟨(c :: r).toArray⟩, .string ⟨#[c]⟩] w fun e w' => e = .returned (.tuple #[.string ⟨r.toArray⟩, .bool true]) ∧ w' = w := by
  have h := Any.strings_CutPrefix (P := Tryd.prog) (ρ := Tryd.cutP_ren) Tryd.cutP ⟨(c :: r).toArray⟩ ⟨#[c]⟩ w
  have e1 : Lib.hasPrefix (c :: r) [c] = true := by rw [pre_cons]; exact beq_self_eq_true c
  refine h.mono fun e w' ⟨he, hw⟩ => ⟨?_, hw⟩
  rw [he]
  simp [Lib.trimPrefix, e1]
theorem cut_no (c : UInt8) (l : List UInt8) (hl : l.head? ≠ some c) (w : World) : Calls Tryd.prog 69 #[.string ⟨l.toArray⟩, .string ⟨#[c]⟩] w fun e w' => e = .returned (.tuple #[.string ⟨l.toArray⟩, .bool false]) ∧ w' = w := by
  have h := Any.strings_CutPrefix (P := Tryd.prog) (ρ := Tryd.cutP_ren) Tryd.cutP ⟨l.toArray⟩ ⟨#[c]⟩ w
  have e1 : Lib.hasPrefix l [c] = false := by
    cases l with
    | nil => rfl
    | cons d r => rw [pre_cons]; exact beq_false_of_ne fun e => hl (by rw [e]; rfl)
  refine h.mono fun e w' ⟨he, hw⟩ => ⟨?_, hw⟩
  rw [he]
  simp [Lib.trimPrefix, e1]
theorem has_any (c : UInt8) (l : List UInt8) (w : World) : Calls Tryd.prog 79 #[.string ⟨l.toArray⟩, .string ⟨#[c]⟩] w fun e w' => e = .returned (.bool (decide (l.head? = some c))) ∧ w' = w := by
  have h := Any.strings_HasPrefix (P := Tryd.prog) (ρ := Tryd.hasP_ren) Tryd.hasP ⟨l.toArray⟩ ⟨#[c]⟩ w
  have e1 : Lib.hasPrefix l [c] = decide (l.head? = some c) := by
    cases l with
    | nil => rfl
    | cons d r =>
      rw [pre_cons]
      by_cases e : c = d
      · rw [e]; simp
      · rw [beq_false_of_ne e]; exact (decide_eq_false fun h => e (Option.some.inj h).symm).symm
  refine h.mono fun e w' ⟨he, hw⟩ => ⟨?_, hw⟩
  rw [he]
  simp [e1]
theorem count_any (c : UInt8) (l : List UInt8) (w : World) : Calls Tryd.prog 57 #[.string ⟨l.toArray⟩, .string ⟨#[c]⟩] w fun e w' => e = .returned (.int .i64 (l.count c : Nat)) ∧ w' = w := by
  have h := Any.strings_Count_one (P := Tryd.prog) (ρ := Tryd.countP_ren) Tryd.countP ⟨l.toArray⟩ c w
  exact h

end Go.Proofs.YtkninejoliclcaaDoor
