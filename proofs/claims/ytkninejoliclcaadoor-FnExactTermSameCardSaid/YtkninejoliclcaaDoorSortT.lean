/- slices.Sort over a row of texts of the call's own, by the shelf's contract: the list in order. -/
import Derived.Test.YtkninejoliclcaaDoorSortLayT
import Derived.Sort.OwnSorted
import Derived.Test.YtkninejoliclcaaDoorRowV
namespace Go.Proofs.YtkninejoliclcaaDoor
open Go.RowKit Go.Shelf Go.Sort
attribute [local go_sem] Oper.semAt_some
set_option linter.unusedVariables false
set_option maxRecDepth 100000

theorem enc_str (xs : List (List UInt8)) : xs.map encStr = xs.map str := rfl
theorem sortT_any (B : Nat) (v : Value) (xs : List (List UInt8)) (hl : xs.length ≤ 100000) (w : World) (h : Rw 9 w B v (xs.map str)) :
    Calls Tryd.prog 64 #[v] w fun e w' => e = .returned (.tuple #[]) ∧ Rw 9 w' B v ((srt xs).map str) ∧ w.grownBy w' v.ownBlock := by
  have h0 := h
  unfold Rw at h0
  rw [List.length_map] at h0
  rcases h0.2 with ⟨rfl, hn⟩ | ⟨g, cap, cur, rfl, hg, hb, h1, h2, h3, h4⟩
  · have hx : xs = [] := List.eq_nil_of_length_eq_zero hn
    subst hx
    have hS := AnyM.slices_Sort_string_none (P := Tryd.prog) (ρ := Tryd.sortT_ren) { Tryd.sortT with } none 0 w
    exact hS.mono fun e w' ⟨he, hw⟩ => ⟨he, by rw [hw, srt_nil]; exact h, by rw [hw]; exact World.grownBy.refl w _⟩
  · by_cases hz : xs.length = 0
    · have hx : xs = [] := List.eq_nil_of_length_eq_zero hz
      subst hx
      have hS := AnyM.slices_Sort_string_none (P := Tryd.prog) (ρ := Tryd.sortT_ren) { Tryd.sortT with } (some ⟨g, 0, none⟩) cap w
      exact hS.mono fun e w' ⟨he, hw⟩ => ⟨he, by rw [hw, srt_nil]; exact h, by rw [hw]; exact World.grownBy.refl w _⟩
    · have hH := holds_of_block (ss := xs) hb (by rw [enc_str]; simpa using h4)
      have hgl : g < w.heap.size := (Array.getElem?_eq_some_iff.1 hb).1
      have hS := AnyM.slices_Sort_string Tryd.sortT g 0 cap xs w hH hgl (by omega)
      refine hS.mono fun e w' ⟨he, n, os, hw⟩ => ⟨he, ?_, ?_⟩
      · rw [hw]
        have hr := ownsRow_sorted (w := w) (base := B) (n := n) (os := os) (ss := xs) (ts := srt xs) (srt_length xs) hg hb (by simpa using h1) h2 (by simpa using h3)
        unfold Rw
        rw [List.length_map, srt_length]
        exact hr
      · rw [hw]
        exact grownBy_sorted _

end Go.Proofs.YtkninejoliclcaaDoor
