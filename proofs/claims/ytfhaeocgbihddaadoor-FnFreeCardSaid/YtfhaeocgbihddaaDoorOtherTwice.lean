/- The other graph of the other graph; its code. Plain mathematics, no condition. -/
import Derived.Test.YtfhaeocgbihddaaDoorCodeBits
import Derived.Test.YtfhaeocgbihddaaDoorBaseS
import Derived.Test.YtfhaeocgbihddaaDoorCodesDef
namespace Go.Proofs.YtfhaeocgbihddaaDoor
open Go Go.RowKit
set_option linter.unusedVariables false
set_option maxRecDepth 100000

theorem rows_size : ∀ n : Fin 7, (rows n.val).length = n.val * (n.val - 1) / 2 := by decide +kernel
theorem other_code {L : List Int} (hg : IsGraph L) : codeOf (otherL L L.length) + codeOf L + 1 = codes L.length := by
  have hl := otherL_length L L.length
  have hc := code_lt L
  have h6 := hg.2.1
  have e := rows_size ⟨L.length, by omega⟩
  dsimp only at e
  have key : codeOf (otherL L L.length) = 2 ^ (rows L.length).length - (codeOf L + 1) := by
    refine Nat.eq_of_testBit_eq fun k => ?_
    rw [Nat.testBit_two_pow_sub_succ hc]
    by_cases hk : k < (rows L.length).length
    · have h := List.getElem?_eq_getElem hk
      have h1 := code_bit (L := otherL L L.length) (k := k) (e := (rows L.length)[k]) (by rw [hl]; exact h)
      have h2 := code_bit (L := L) h
      have hm := rows_mem L.length _ (List.getElem_mem hk)
      have h3 := other_bt hg (i := (rows L.length)[k].1) (by omega) (rows L.length)[k].2
      have b1 := bt_le L (rows L.length)[k].1 (rows L.length)[k].2
      rw [Nat.testBit_eq_decide_div_mod_eq, Nat.testBit_eq_decide_div_mod_eq, h1, h2]
      by_cases hb : bt L (rows L.length)[k].1 (rows L.length)[k].2 = 1
      · have h4 : ¬ bt (otherL L L.length) (rows L.length)[k].1 (rows L.length)[k].2 = 1 := fun x => (h3.1 x).2.1 hb
        simp [hk, hb, h4]
      · have h4 : bt (otherL L L.length) (rows L.length)[k].1 (rows L.length)[k].2 = 1 := h3.2 ⟨hm.2, hb, by omega⟩
        simp [hk, hb, h4]
    · have h2 := code_lt (otherL L L.length)
      rw [hl] at h2
      rw [Nat.testBit_lt_two_pow (Nat.lt_of_lt_of_le h2 (Nat.pow_le_pow_right (by omega) (by omega)))]
      simp [hk]
  unfold codes
  rw [← e, key]
  omega
theorem other_other {L : List Int} (hg : IsGraph L) : otherL (otherL L L.length) (otherL L L.length).length = L := by
  have hG := other_graph hg
  have h1 := other_code hg
  have h2 := other_code hG
  have hl := otherL_length L L.length
  have hl2 := otherL_length (otherL L L.length) (otherL L L.length).length
  refine code_inj (other_graph hG) hg (by rw [hl2, hl]) ?_
  rw [hl] at h2 ⊢
  omega
end Go.Proofs.YtfhaeocgbihddaaDoor
