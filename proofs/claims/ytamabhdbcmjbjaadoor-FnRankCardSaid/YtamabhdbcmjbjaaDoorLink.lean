/- link: a pair is made an edge. -/
import Derived.Test.YtamabhdbcmjbjaaDoorBaseA
namespace Go.Proofs.YtamabhdbcmjbjaaDoor
open Go.RowKit
set_option linter.unusedVariables false

set_option maxHeartbeats 400000 in
theorem link_any (B g cap n : Nat) (L : List Nat) (a b : Nat) (w : World) (hn : n ≤ 6) (hL : L.length = n) (ha : a < n) (hb : b < n) (hab : a ≠ b) (hx : ∀ x ∈ L, x < 1048576) (h : Row w B (.slice (some ⟨g, 0, none⟩) n cap) (ints L)) :
    Calls Tryd.prog 78 #[.slice (some ⟨g, 0, none⟩) n cap, .int .i64 a, .int .i64 b] w (Wrote w B g (.slice (some ⟨g, 0, none⟩) n cap) (lnk L a b 1)) := by
  have h1 : (0 : Int) ≤ (a : Int) ∧ (a : Int) < (n : Int) := by omega
  have h2 : (0 : Int) ≤ (b : Int) ∧ (b : Int) < (n : Int) := by omega
  obtain ⟨x, ex⟩ : ∃ x : Nat, x = L[a]?.getD 0 := ⟨_, rfl⟩
  obtain ⟨y, ey⟩ : ∃ y : Nat, y = L[b]?.getD 0 := ⟨_, rfl⟩
  have hxa : x < 1048576 := by rw [ex, List.getElem?_eq_getElem (by omega)]; exact hx _ (List.getElem_mem _)
  have hya : y < 1048576 := by rw [ey, List.getElem?_eq_getElem (by omega)]; exact hx _ (List.getElem_mem _)
  have hca : w.cell? ⟨g, a, none⟩ = some (.int .i64 x) := by
    rw [h.cellAt a (by rw [ints_length]; omega), ints_get, ← ex]
  have hcb : w.cell? ⟨g, b, none⟩ = some (.int .i64 y) := by
    rw [h.cellAt b (by rw [ints_length]; omega), ints_get, ← ey]
  have hfa : w.frozen? ⟨g, a, none⟩ = false := h.frozenAt a (by rw [ints_length]; omega)
  have hfb : w.frozen? ⟨g, b, none⟩ = false := h.frozenAt b (by rw [ints_length]; omega)
  have hcb2 : ∀ z, (w.setCell ⟨g, a, none⟩ z).cell? ⟨g, b, none⟩ = some (.int .i64 y) := fun z => (World.cell?_setCell_other _ _ _ _ (by simp)).trans hcb
  have o1 := or_pow x b (by omega) (by omega)
  have o2 := or_pow y a (by omega) (by omega)
  have HX := Lib.hid ex
  have HY := Lib.hid ey
  have H := Lib.hid h
  have HL := Lib.hid hL
  have hd : a ≠ b := hab
  clear h ex ey hx hcb hL
  go_enter Tryd.func78, Tryd.ntmps78
  go_wp2
  go_region
  all_goals go_wp2
  all_goals go_region
  all_goals go_wp2
  all_goals go_end0
  all_goals
    refine ⟨⟨_, rfl⟩, ?_, grown_drew (grown_drew (grown_set (grown_set (World.grownBy.refl w _) _ _) _ _))⟩
    have r1 := H.out.set a (by rw [ints_length, HL.out]; omega) ((x ||| 2 ^ b : Nat) : Int)
    have r2 := r1.set b (by rw [List.length_set, ints_length, HL.out]; omega) ((y ||| 2 ^ a : Nat) : Int)
    rw [ints_set, ints_set] at r2
    have e : lnk L a b 1 = (L.set a (x ||| 2 ^ b)).set b (y ||| 2 ^ a) := by
      unfold lnk
      rw [Nat.one_mul, Nat.one_mul, ← HX.out, List.getElem?_set_ne hd, ← HY.out]
    rw [e]
    exact r2
end Go.Proofs.YtamabhdbcmjbjaaDoor
