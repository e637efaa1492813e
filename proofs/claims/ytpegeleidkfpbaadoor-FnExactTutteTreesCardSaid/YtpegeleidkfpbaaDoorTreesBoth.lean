/- TutteTrees, by the program and by the model, at all lists. -/
import Derived.Test.YtpegeleidkfpbaaDoorSpecTrees
import Derived.Test.YtpegeleidkfpbaaDoorTreesTable
import Derived.Test.YtpegeleidkfpbaaDoorRowsOf
namespace Go.Proofs.YtpegeleidkfpbaaDoor
open Go Go.RowKit
set_option linter.unusedVariables false
set_option maxRecDepth 100000

theorem implTrees_no (B : Nat) (v : Value) (L : List Int) (ht : ¬ IsT L) (w : World) (h : Row w B v L) (hT : Tab w) :
    Calls Tryd.prog 26 #[v] w (ToldR w [] false) := by
  have H1 := Lib.hid (asT_no B v L ht w h hT)
  clear h hT ht
  go_enter Tryd.func26, Tryd.ntmps26
  go_wp2_with fail
  go_enter Tryd.func42, Tryd.ntmps42
  go_wp2_with fail
  refine H1.out.mono ?_
  rintro e w1 ⟨rfl, b1⟩
  go_wp2
  go_ret2
  exact ⟨_, rfl, ⟨[], World.ownsRow_nil _ _ _ _, rfl, (fun k hk => absurd hk (by simp)), (fun i j gg hi => absurd hi (by simp))⟩, b1⟩
theorem implTrees_yes (B : Nat) (v : Value) (L : List Int) (ht : IsT L) (w : World) (h : Row w B v L) (hT : Tab w) :
    Calls Tryd.prog 26 #[v] w (ToldR w (treesS (codeOf L)) true) := by
  have h2 := hT.lt
  have hCl := code_ltN ht
  have hle := codesN_le L.length
  have hf := forT_facts (C := codeOf L) (by omega)
  have H1 := Lib.hid (asT_yes B v L ht w h hT)
  obtain ⟨A, c, rfl, hs⟩ := h.seen
  have H2 := Lib.hid (fun w1 (b : Below w.heap.size w w1) => callsIn_wide.1 (treesT_in A c L ht w1 (hs.below b) (hT.below b (by omega))))
  have H3 := Lib.hid (fun w1 (b : Below w.heap.size w w1) u (hu : TV w1 u (treesP (codeOf L))) => rowsOf_any A c L ht u (treesP (codeOf L)) hf.2.1 hf.2.2.1 w1 (hs.below b) (hT.below b (by omega)) hu)
  rw [hf.2.2.2] at H3
  obtain ⟨n, hn⟩ : ∃ n, n = L.length := ⟨_, rfl⟩
  rw [← hn] at H1 H2 H3 ⊢
  clear h hs hT ht hn hCl hle hf
  go_enter Tryd.func26, Tryd.ntmps26
  go_wp2_with fail
  go_enter Tryd.func42, Tryd.ntmps42
  go_wp2_with fail
  refine H1.out.mono ?_
  rintro e w1 ⟨rfl, b1⟩
  go_wp2_with fail
  refine (H2.out w1 b1).mono ?_
  rintro e w2 ⟨v2, rfl, hv2, b2'⟩
  have b2 := b1.trans (b2'.mono b1.size)
  have HV := Lib.hid hv2
  clear hv2 b2'
  go_wp2_with fail
  refine (H3.out w2 b2 v2 HV.out).mono ?_
  rintro e w3 ⟨v3, rfl, hv3, b3'⟩
  have HR := Lib.hid (hv3.mono b2.size)
  have b3 := Lib.hid (b2.trans (b3'.mono b2.size))
  clear hv3 b3'
  go_wp2
  go_ret2
  exact ⟨_, rfl, HR.out, b3.out⟩
theorem form_small {r m : Nat} {T : List (List Int)} (h : FormT r m T) (hr : r ≤ 4) (hm : m ≤ 16) : T.length ≤ 100 ∧ RowsLe T 100 := by
  refine ⟨by have := h.1; omega, fun k => ?_⟩
  by_cases hk : k < r + 1
  · rw [h.2 k hk]; omega
  · rw [List.getElem?_eq_none (by have := h.1; omega)]; simp
theorem form_from {C r m : Nat} (f : Nat) : ∀ (s : Nat) (T : List (List Int)), FormT r m T → FormT r m (spFrom C f s T) := by
  induction f with
  | zero => intro s T h; exact h
  | succ f ih =>
    intro s T h
    have h2 : FormT r m (spStep C T s) := by
      unfold spStep
      split
      · exact form_inc h _ _
      · exact h
    unfold spFrom
    split
    · exact h2
    · exact ih _ _ h2
theorem treesS_small {L : List Int} (ht : IsT L) : (treesS (codeOf L)).length ≤ 100 ∧ RowsLe (treesS (codeOf L)) 100 := by
  have hCl := code_ltN ht
  have hle := codesN_le L.length
  have hrs := rank_size (C := codeOf L) (by omega)
  have hpl := pcf_le 15 (codeOf L)
  exact form_small (form_from 1024 (codeOf L) _ (form_zero (rkT (codeOf L)) (pcf 15 (codeOf L)))) hrs.2 (by omega)
theorem tutteTrees_both (L : List Int) : ∃ (T : List (List Int)) (ok : Bool), (T.length ≤ 100 ∧ RowsLe T 100) ∧
    (∀ B v w, Row w B v L → Calls Tryd.prog 25 #[v] w (ToldR w T ok)) ∧
    (∀ B v w, Row w B v L → Tab w → Calls Tryd.prog 26 #[v] w (ToldR w T ok)) := by
  by_cases ht : IsT L
  · exact ⟨_, true, treesS_small ht, fun B v w h => specTreesF_yes B v L ht w h, fun B v w h hT => implTrees_yes B v L ht w h hT⟩
  · exact ⟨[], false, ⟨by simp, fun k => by simp⟩, fun B v w h => specTreesF_no B v L ht w h, fun B v w h hT => implTrees_no B v L ht w h hT⟩
end Go.Proofs.YtpegeleidkfpbaaDoor
