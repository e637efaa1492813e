/- slices.Clone of a list of numbers. -/
import Derived.Test.YtamabhdbcmjbjaaDoorCopy
import Derived.Test.YtamabhdbcmjbjaaDoorBaseA
namespace Go.Proofs.YtamabhdbcmjbjaaDoor
open Go.RowKit Go.Shelf
attribute [local go_sem] Oper.semAt_some
set_option linter.unusedVariables false
set_option maxRecDepth 100000

theorem clone_any (B : Nat) (v : Value) (xs : List Int) (h0 : 0 < xs.length) (hl : xs.length ≤ 1000) (w : World) (hr : Row w B v xs) : Calls Tryd.prog 86 #[v] w (Gave w xs) := by
  obtain ⟨A, c, rfl, hs⟩ := hr.seen
  obtain ⟨b, o, hA, _, _⟩ := hs 0 h0
  subst hA
  have HS := Lib.hid hs
  have R0 := Lib.hid (World.ownsRow_lit (base := w.heap.size) (e := 3) (size := 1) w #[] 0 (Nat.le_refl _) (by unfold maxLen; omega) rfl)
  have B0 := Lib.hid ((Below.refl w.heap.size w).alloc (Nat.le_refl _) (.cells #[] 3))
  have he : ∀ w : World, (binOp .eql 23 (.slice (some ⟨b, o, none⟩) xs.length c) (.slice none 0 0)).run Tryd.prog w = .ok (.bool false) w := fun _ => rfl
  clear hs hr
  go_enter Tryd.func86, Tryd.ntmps86
  go_wp2_with (at_builtin; refine append_list rfl (.tmp 5) (.tmp 6) rfl (w.alloc (.cells #[] 3)) w.heap.size (.slice (some ⟨w.heap.size, 0, none⟩) 0 0) [] xs (some ⟨b, o, none⟩) c rfl rfl R0.out (HS.out.below B0.out) h0 B0.out.size (by simp; omega) ?_; intro v' w' hr' hb')
  go_ret
  exact ⟨v', rfl, by have h := hr'.out; rw [List.nil_append] at h; exact h, B0.out.trans hb'.out⟩
end Go.Proofs.YtamabhdbcmjbjaaDoor
