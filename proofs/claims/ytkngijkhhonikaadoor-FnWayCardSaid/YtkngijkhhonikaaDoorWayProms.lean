/- Ways back are ways backwards. Plain mathematics. -/
import Derived.Test.YtkngijkhhonikaaDoorWayFacts
import Derived.Test.YtkngijkhhonikaaDoorTreeProms
import Derived.Test.YtkngijkhhonikaaDoorRevTab
namespace Go.Proofs.YtkngijkhhonikaaDoor
open Go Go.RowKit
set_option linter.unusedVariables false
set_option maxRecDepth 100000

theorem ddT_is (L : List Int) {b : Nat} (hb : b < L.length) (w : Nat) : ddT ((List.range L.length).map (stepsT L)) b w = dB L b w := by
  unfold ddT dB
  rw [List.getElem?_map, List.getElem?_range hb]
  rfl
theorem nxD_is (L : List Int) {b : Nat} (hb : b < L.length) (x : Nat) : nxD L ((List.range L.length).map (stepsT L)) L.length b x = stepW L b x := by
  unfold nxD stepW
  congr 2
  funext v
  rw [ddT_is L hb, ddT_is L hb]
  rfl
theorem itW_shift (L : List Int) (b a : Nat) : ∀ k, itW L b a (k + 1) = itW L b (stepW L b a) k
  | 0 => rfl
  | k + 1 => by show stepW L b (itW L b a (k + 1)) = stepW L b (itW L b (stepW L b a) k); rw [itW_shift L b a k]
theorem path_is (L : List Int) {b : Nat} (hb : b < L.length) : ∀ k a, pathD L ((List.range L.length).map (stepsT L)) L.length b k a = (List.range (k + 1)).map (itW L b a)
  | 0, a => rfl
  | k + 1, a => by
    rw [List.range_succ_eq_map, List.map_cons, List.map_map]
    show a :: pathD L _ L.length b k (nxD L _ L.length b a) = itW L b a 0 :: _
    rw [path_is L hb k, nxD_is L hb]
    congr 1
    exact List.map_congr_left fun j _ => (itW_shift L b a j).symm
theorem way_self (L : List Int) {a : Nat} (ha : a < L.length) : wayT L a a = [a] := by
  unfold wayT
  rw [dB_self ha]
  rfl
theorem way_back {L : List Int} (h : IsTree L) {a b : Nat} (ha : a < L.length) (hb : b < L.length) : wayT L b a = (wayT L a b).reverse := by
  have key : revP L = true := by_tr revP_1 revP_2 revP_3 revP_4 revP_5 revP_6 h
  unfold revP revW at key
  have pair : ∀ a b, a < L.length → b < a → wayT L a b = (wayT L b a).reverse := fun a b ha hlt => by
    have k1 := List.all_eq_true.1 (List.all_eq_true.1 key a (List.mem_range.2 ha)) b (List.mem_range.2 hlt)
    rw [Bool.and_eq_true, beq_iff_eq, ddT_is L ha, ddT_is L (by omega), path_is L (by omega), path_is L ha] at k1
    exact k1.2
  rcases Nat.lt_trichotomy a b with hlt | rfl | hlt
  · exact pair b a hb hlt
  · rw [way_self L ha]; rfl
  · rw [pair a b ha hlt, List.reverse_reverse]
/-- What a law asks of a way. -/
theorem way_facts {L : List Int} (h : IsTree L) {a b : Nat} (ha : a < L.length) (hb : b < L.length) :
    (wayT L a b).length = dB L b a + 1 ∧ (∀ i, i ≤ dB L b a → (wayT L a b)[i]?.getD 0 < L.length) ∧ (∀ i, 0 < i → i ≤ dB L b a → bt L ((wayT L a b)[i]?.getD 0) ((wayT L a b)[i - 1]?.getD 0) = 1) ∧ (wayT L a b)[0]?.getD 0 = a ∧ (wayT L a b)[dB L b a]?.getD 0 = b := by
  have hget : ∀ i, i ≤ dB L b a → (wayT L a b)[i]?.getD 0 = itW L b a i := fun i hi => by
    unfold wayT
    rw [List.getElem?_map, List.getElem?_range (by omega)]
    rfl
  refine ⟨by simp [wayT], fun i hi => by rw [hget i hi]; exact (it_facts h ha hb i hi).1, fun i h0 hi => ?_, by rw [hget 0 (by omega)]; rfl, by rw [hget _ (Nat.le_refl _)]; exact (it_end h ha hb _ (Nat.le_refl _)).2 rfl⟩
  obtain ⟨j, rfl⟩ : ∃ j, i = j + 1 := ⟨i - 1, by omega⟩
  rw [hget (j + 1) hi, hget (j + 1 - 1) (by omega), Nat.add_sub_cancel]
  obtain ⟨i1, i2⟩ := it_facts h ha hb j (by omega)
  have hne : itW L b a j ≠ b := fun e => by have := (it_end h ha hb j (by omega)).1 e; omega
  have h3 := stepW_is h i1 hb hne
  have h4 := h3.2.1
  unfold stepQ at h4
  rw [Bool.and_eq_true, beq_iff_eq] at h4
  show bt L (stepW L b (itW L b a j)) (itW L b a j) = 1
  rw [bt_sym h.1.1 h3.1 i1]
  exact h4.1
theorem dB_le (L : List Int) (b a : Nat) : dB L b a ≤ L.length := by
  unfold dB stepsT
  rw [List.getElem?_map]
  by_cases ha : a < L.length
  · rw [List.getElem?_range ha]; exact otT_le L b L.length a
  · rw [List.getElem?_eq_none (by simp; omega)]; exact Nat.zero_le _
end Go.Proofs.YtkngijkhhonikaaDoor
