/- Two graphs beside each other: their parts, their edges, and that no way leads between. Plain mathematics, no condition. -/
import Derived.Test.YtjkepoalepmjoaaDoorBaseN
import Derived.Test.YtjkepoalepmjoaaDoorPromPart
import Derived.Test.YtjkepoalepmjoaaDoorPromNamed
namespace Go.Proofs.YtjkepoalepmjoaaDoor
open Go Go.RowKit
set_option linter.unusedVariables false
set_option maxRecDepth 100000

theorem ent_left {L : List Int} (M : List Int) {v : Nat} (hv : v < L.length) : ent (joinL L M) v = ent L v := by
  unfold ent
  rw [joinL_left M hv]
theorem ent_right (L : List Int) {M : List Int} {v : Nat} (hv : v < M.length) : ent (joinL L M) (L.length + v) = ent M v * 2 ^ L.length := by
  have h := joinL_right L hv
  unfold ent
  rw [h, Int.toNat_natCast]
  rfl
theorem bt_left {L : List Int} (M : List Int) {a : Nat} (ha : a < L.length) (b : Nat) : bt (joinL L M) a b = bt L a b := by
  unfold bt
  rw [ent_left M ha]
theorem bt_right (L : List Int) {M : List Int} {a : Nat} (ha : a < M.length) (b : Nat) : bt (joinL L M) (L.length + a) (L.length + b) = bt M a b := by
  unfold bt
  rw [ent_right L ha, Nat.pow_add, Nat.mul_comm (ent M a), Nat.mul_div_mul_left _ _ (Nat.two_pow_pos _)]
theorem bt_cross (L : List Int) {M : List Int} {a b : Nat} (ha : a < M.length) (hb : b < L.length) : bt (joinL L M) (L.length + a) b = 0 := by
  unfold bt
  rw [ent_right L ha]
  have e : L.length = b + 1 + (L.length - b - 1) := by omega
  have e2 : ent M a * 2 ^ L.length = (ent M a * 2 ^ (L.length - b - 1) * 2) * 2 ^ b := by
    rw [Nat.mul_assoc, Nat.mul_assoc, ← Nat.pow_succ', ← Nat.pow_add]
    congr 2
    omega
  rw [e2, Nat.mul_div_cancel _ (Nat.two_pow_pos _), Nat.mul_mod_left]
theorem bt_over {L : List Int} (hg : IsGraph L) (M : List Int) {a b : Nat} (ha : a < L.length) (hb : L.length ≤ b) : bt (joinL L M) a b = 0 := by
  rw [bt_left M ha]
  exact bt_far hg ha hb
theorem join_graph {L M : List Int} (hL : IsGraph L) (hM : IsGraph M) (h6 : L.length + M.length ≤ 6) : IsGraph (joinL L M) := by
  have hl := joinL_length L M
  have h1 := hL.1
  refine ⟨by rw [hl]; omega, by rw [hl]; exact h6, fun v hv => ?_⟩
  rw [hl] at hv
  by_cases hlt : v < L.length
  · have hr := hL.2.2 v hlt
    refine ⟨?_, by rw [bt_left M hlt]; exact hr.2.1, fun w hw => by rw [bt_left M hlt, bt_left M (show w < L.length by omega)]; exact hr.2.2 w hw⟩
    unfold InR
    rw [joinL_left M hlt, hl]
    refine ⟨hr.1.1, Int.lt_of_lt_of_le hr.1.2 ?_⟩
    exact_mod_cast Nat.pow_le_pow_right (by omega) (Nat.le_add_right _ _)
  · obtain ⟨j, rfl⟩ : ∃ j, v = L.length + j := ⟨v - L.length, by omega⟩
    have hj : j < M.length := by omega
    have hr := hM.2.2 j hj
    refine ⟨?_, by rw [bt_right L hj]; exact hr.2.1, fun w hw => ?_⟩
    · unfold InR
      rw [joinL_right L hj, hl]
      refine ⟨by omega, ?_⟩
      have h2 := ent_lt hr.1
      have h3 : ent M j * 2 ^ L.length < 2 ^ (L.length + M.length) := by
        rw [Nat.pow_add, Nat.mul_comm]
        exact Nat.mul_lt_mul_of_pos_left h2 (Nat.two_pow_pos _)
      exact_mod_cast h3
    · by_cases hwl : w < L.length
      · rw [bt_cross L hj hwl, bt_over hL M hwl (by omega)]
      · obtain ⟨k, rfl⟩ : ∃ k, w = L.length + k := ⟨w - L.length, by omega⟩
        rw [bt_right L hj, bt_right L (show k < M.length by omega)]
        exact hr.2.2 k (by omega)
def lowS (n : Nat) : Nat := 2 ^ n - 1
def highS (n m : Nat) : Nat := (2 ^ m - 1) * 2 ^ n
theorem highS_nodes : ∀ n : Fin 7, ∀ m : Fin 7, n.val + m.val ≤ 6 → nodesL (highS n.val m.val) = (List.range m.val).map (fun i => n.val + i) ∧ highS n.val m.val < 2 ^ (n.val + m.val) ∧ nodesL (lowS n.val) = List.range n.val := by decide +kernel
theorem part_low {L M : List Int} (hL : IsGraph L) (hM : IsGraph M) (h6 : L.length + M.length ≤ 6) : partG (joinL L M) (lowS L.length) = L := by
  have hJ := join_graph hL hM h6
  have hl := joinL_length L M
  have hp := two_pos L.length
  have hs : lowS L.length < 2 ^ (joinL L M).length := by
    rw [hl]
    have := Nat.pow_le_pow_right (n := 2) (by omega) (Nat.le_add_right L.length M.length)
    unfold lowS
    omega
  have hf := (highS_nodes ⟨L.length, by omega⟩ ⟨M.length, by omega⟩ h6).2.2
  dsimp only at hf
  have hpl : (partG (joinL L M) (lowS L.length)).length = L.length := by rw [partG_length, hf, List.length_range]
  refine graph_ext (partG_graph hJ hs (by rw [hf, List.length_range]; exact hL.1)) hL hpl fun a b ha hb => ?_
  rw [hpl] at ha hb
  refine bt_eq ?_
  rw [partG_bt hJ hs, hf, List.length_range, show at_ (List.range L.length) a = a by simp [at_, ha], show at_ (List.range L.length) b = b by simp [at_, hb], bt_left M ha]
  exact ⟨fun h => h.2.2, fun h => ⟨ha, hb, h⟩⟩
theorem part_high {L M : List Int} (hL : IsGraph L) (hM : IsGraph M) (h6 : L.length + M.length ≤ 6) : partG (joinL L M) (highS L.length M.length) = M := by
  have hJ := join_graph hL hM h6
  have hl := joinL_length L M
  obtain ⟨hf, hs, _⟩ := highS_nodes ⟨L.length, by omega⟩ ⟨M.length, by omega⟩ h6
  dsimp only at hf hs
  rw [← hl] at hs
  have hpl : (partG (joinL L M) (highS L.length M.length)).length = M.length := by rw [partG_length, hf, List.length_map, List.length_range]
  refine graph_ext (partG_graph hJ hs (by rw [hf, List.length_map, List.length_range]; exact hM.1)) hM hpl fun a b ha hb => ?_
  rw [hpl] at ha hb
  refine bt_eq ?_
  rw [partG_bt hJ hs, hf, List.length_map, List.length_range, show at_ ((List.range M.length).map fun i => L.length + i) a = L.length + a by simp [at_, ha], show at_ ((List.range M.length).map fun i => L.length + i) b = L.length + b by simp [at_, hb], bt_right L ha]
  exact ⟨fun h => h.2.2, fun h => ⟨ha, hb, h⟩⟩
theorem filter_two {α : Type} (p q b : α → Bool) : ∀ l : List α, (∀ x ∈ l, b x = true → (p x = true ∧ q x = false) ∨ (p x = false ∧ q x = true)) → (l.filter b).length = ((l.filter p).filter b).length + ((l.filter q).filter b).length
  | [], _ => rfl
  | x :: l, h => by
    have ih := filter_two p q b l (fun y hy => h y (by simp [hy]))
    by_cases hb : b x = true
    · rcases h x (by simp) hb with ⟨h1, h2⟩ | ⟨h1, h2⟩
      · simp [hb, h1, h2, ih]; omega
      · simp [hb, h1, h2, ih]; omega
    · have hb' : b x = false := by simpa using hb
      rw [List.filter_cons, if_neg (by rw [hb']; decide), ih]
      by_cases h1 : p x = true <;> by_cases h2 : q x = true <;> simp [hb', h1, h2]
theorem inside_low : ∀ n : Fin 7, ∀ m : Fin 7, n.val + m.val ≤ 6 → ∀ a : Fin 6, ∀ b : Fin 6, a.val < b.val → b.val < n.val + m.val → (inside (lowS n.val) (a.val, b.val) = decide (b.val < n.val)) ∧ (inside (highS n.val m.val) (a.val, b.val) = decide (n.val ≤ a.val)) := by decide +kernel
theorem join_edges {L M : List Int} (hL : IsGraph L) (hM : IsGraph M) (h6 : L.length + M.length ≤ 6) : edgesN (joinL L M) = edgesN L + edgesN M := by
  have hJ := join_graph hL hM h6
  have hl := joinL_length L M
  have hp := two_pos L.length
  have hs : lowS L.length < 2 ^ (joinL L M).length := by
    rw [hl]
    have := Nat.pow_le_pow_right (n := 2) (by omega) (Nat.le_add_right L.length M.length)
    unfold lowS
    omega
  have hs2 := (highS_nodes ⟨L.length, by omega⟩ ⟨M.length, by omega⟩ h6).2.1
  dsimp only at hs2
  rw [← hl] at hs2
  have e1 := part_edges hJ hs
  have e2 := part_edges hJ hs2
  rw [part_low hL hM h6] at e1
  rw [part_high hL hM h6] at e2
  rw [edges_in hJ.2.1, e1, e2]
  refine filter_two _ _ _ _ fun e he hb => ?_
  have hm := rows_mem _ e he
  rw [hl] at hm
  have hi := inside_low ⟨L.length, by omega⟩ ⟨M.length, by omega⟩ h6 ⟨e.1, by omega⟩ ⟨e.2, by omega⟩ hm.1 hm.2
  dsimp only at hi
  have hi1 : inside (lowS L.length) e = decide (e.2 < L.length) := hi.1
  have hi2 : inside (highS L.length M.length) e = decide (L.length ≤ e.1) := hi.2
  rw [hi1, hi2]
  have hb1 : bt (joinL L M) e.1 e.2 = 1 := by simpa using hb
  by_cases h1 : e.2 < L.length
  · exact .inl ⟨by simp [h1], by simp; omega⟩
  · by_cases h2 : e.1 < L.length
    · rw [bt_over hL M h2 (by omega)] at hb1
      cases hb1
    · exact .inr ⟨by simp [h1], by simp; omega⟩
theorem join_apart {L M : List Int} (hL : IsGraph L) (hM : IsGraph M) (h6 : L.length + M.length ≤ 6) : ¬ IsLinked (joinL L M) := fun h => by
  have hl := joinL_length L M
  have h1 := hL.1
  have h2 := hM.1
  have := linked_all h (p := fun v => v < L.length) (fun v u hv hu hp hb => by
    refine Classical.byContradiction fun hn => ?_
    rw [bt_over hL M hp (by omega)] at hb
    cases hb) (r := 0) (by rw [hl]; omega) h1 L.length (by rw [hl]; omega)
  omega
end Go.Proofs.YtjkepoalepmjoaaDoor
