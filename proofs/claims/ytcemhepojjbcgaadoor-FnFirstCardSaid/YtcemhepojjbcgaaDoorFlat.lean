/- A graph is all that is alike to it just if it has no edges, or all pairs as edges; the edges of a graph and of the other one are all pairs. -/
import Derived.Test.YtcemhepojjbcgaaDoorLagrange
namespace Go.Proofs.YtcemhepojjbcgaaDoor
open Go Go.RowKit
set_option linter.unusedVariables false
set_option maxRecDepth 100000

theorem rows_half : ∀ n : Fin 7, 2 * (rows n.val).length = n.val * (n.val - 1) := by decide
def Flat (L : List Int) (c : Nat) : Prop := ∀ a b, a < L.length → b < L.length → a ≠ b → bt L a b = c
theorem bt_own {L : List Int} (hL : IsGraph L) {a : Nat} (ha : a < L.length) : bt L a a = 0 := by
  have d := (hL.2.2 a ha).2.1
  have h := bt_le L a a
  omega
theorem flat_named {L : List Int} (hL : IsGraph L) {c : Nat} (h : Flat L c) {P : List Nat} (hP : Names L.length L.length P) : namedL L P = L := by
  have hl := namedL_length L P
  refine graph_ext (named_graph hL hP) hL hl fun i j hi hj => ?_
  rw [hl] at hi hj
  obtain ⟨a, ha, rfl⟩ := at_surj hP hi
  obtain ⟨b, hb, rfl⟩ := at_surj hP hj
  rw [named_at hP ha hb]
  by_cases e : a = b
  · subst e
    rw [bt_own hL ha, bt_own hL hi]
  · rw [h a b ha hb e, h _ _ hi hj (fun x => e (at_inj hP ha hb x))]
def swapF (i j v : Nat) : Nat := if v = i then j else if v = j then i else v
theorem swap_names {n i j : Nat} (hi : i < n) (hj : j < n) : Names n n ((List.range n).map (swapF i j)) := by
  refine map_range_names (fun v hv => ?_) fun a b ha hb e => ?_
  · unfold swapF
    split
    · exact hj
    · split
      · exact hi
      · exact hv
  · unfold swapF at e
    split at e <;> split at e <;> (try split at e) <;> (try split at e) <;> omega
theorem swap_bt {L : List Int} (h : ∀ P, Names L.length L.length P → namedL L P = L) {i j a b : Nat} (hi : i < L.length) (hj : j < L.length) (ha : a < L.length) (hb : b < L.length) : bt L (swapF i j a) (swapF i j b) = bt L a b := by
  have hN := swap_names hi hj
  have h1 := named_at hN ha hb
  rw [map_range_at _ _ ha, map_range_at _ _ hb, h _ hN] at h1
  exact h1
theorem all_flat {L : List Int} (hL : IsGraph L) (h : ∀ P, Names L.length L.length P → namedL L P = L) : Flat L (bt L 0 1) := by
  have left : ∀ a c b, a < L.length → c < L.length → b < L.length → a ≠ b → c ≠ b → bt L a b = bt L c b := fun a c b ha hc hb hab hcb => by
    have h1 := swap_bt h ha hc ha hb
    unfold swapF at h1
    rw [if_pos rfl, if_neg (Ne.symm hab), if_neg (Ne.symm hcb)] at h1
    exact h1.symm
  have right : ∀ a b d, a < L.length → b < L.length → d < L.length → a ≠ b → a ≠ d → bt L a b = bt L a d := fun a b d ha hb hd hab had => by
    rw [bt_sym hL ha hb, bt_sym hL ha hd]
    exact left b d a hb hd ha (Ne.symm hab) (Ne.symm had)
  intro a b ha hb hab
  have h2 : 1 < L.length := by omega
  by_cases hb0 : b = 0
  · subst hb0
    rw [bt_sym hL ha hb]
    exact right 0 a 1 hb ha h2 (Ne.symm hab) (by omega)
  · rw [left a 0 b ha (by omega) hb hab (Ne.symm hb0)]
    exact right 0 b 1 (by omega) hb h2 (Ne.symm hb0) (by omega)
theorem flat_edges {L : List Int} (hL : IsGraph L) : (edgesN L = 0 ↔ Flat L 0) ∧ (2 * edgesN L = L.length * (L.length - 1) ↔ Flat L 1) := by
  have h6 := hL.2.1
  have hr := rows_half ⟨L.length, by omega⟩
  dsimp only at hr
  have up : ∀ c, (∀ a b, a < b → b < L.length → bt L a b = c) → Flat L c := fun c h a b ha hb hab => by
    rcases Nat.lt_or_gt_of_ne hab with x | x
    · exact h a b x hb
    · rw [bt_sym hL ha hb]; exact h b a x ha
  rw [edges_in h6]
  unfold edgesIn
  have hle := List.length_filter_le (fun p : Nat × Nat => bt L p.1 p.2 == 1) (rows L.length)
  refine ⟨⟨fun h => up 0 fun a b hab hb => ?_, fun h => ?_⟩, ⟨fun h => up 1 fun a b hab hb => ?_, fun h => ?_⟩⟩
  · have h1 := List.filter_eq_nil_iff.1 (List.eq_nil_of_length_eq_zero h) (a, b) ((rows_all _ _ _).2 ⟨hab, hb⟩)
    have h2 := bt_le L a b
    have h3 : ¬ bt L a b = 1 := fun e => h1 (by simp [e])
    omega
  · rw [List.filter_eq_nil_iff.2 fun p hp => ?_]
    · rfl
    · obtain ⟨h1, h2⟩ := (rows_all L.length p.1 p.2).1 hp
      rw [h p.1 p.2 (by omega) h2 (by omega)]
      decide
  · have h1 : (List.filter (fun p : Nat × Nat => bt L p.1 p.2 == 1) (rows L.length)).length = (rows L.length).length := by omega
    have h2 := List.length_filter_eq_length_iff.1 h1 (a, b) ((rows_all _ _ _).2 ⟨hab, hb⟩)
    simpa using h2
  · rw [List.filter_eq_self.2 fun p hp => ?_]
    · exact hr
    · obtain ⟨h1, h2⟩ := (rows_all L.length p.1 p.2).1 hp
      rw [h p.1 p.2 (by omega) h2 (by omega)]
      decide
theorem many_one {L : List Int} (hL : IsGraph L) : manyN L = 1 ↔ (edgesN L = 0 ∨ 2 * edgesN L = L.length * (L.length - 1)) := by
  have h6 := hL.2.1
  have hsm := same_many hL
  have hp := autos_pos hL
  have hpf := perms_fac ⟨L.length, by omega⟩
  dsimp only at hpf
  obtain ⟨e0, e1⟩ := flat_edges hL
  rw [e0, e1]
  constructor
  · intro h
    rw [h, Nat.mul_one, ← hpf] at hsm
    have hall := List.length_filter_eq_length_iff.1 hsm
    have hf := all_flat hL fun P hP => (okC_iff hL hL rfl hP).1 (hall P (perms_all _ _ P hP))
    have h01 := bt_le L 0 1
    rcases (show bt L 0 1 = 0 ∨ bt L 0 1 = 1 by omega) with e | e
    · rw [e] at hf; exact .inl hf
    · rw [e] at hf; exact .inr hf
  · intro h
    have hn : ∀ P, Names L.length L.length P → namedL L P = L := fun P hP => by
      rcases h with h | h
      · exact flat_named hL h hP
      · exact flat_named hL h hP
    have ha : (autosL L).length = fac L.length := by
      rw [← hpf]
      unfold autosL
      rw [List.filter_eq_self.2 fun P hP => ?_]
      have hN := perms_names _ _ P hP
      exact (okC_iff hL hL rfl hN).2 (hn P hN)
    rw [← ha] at hsm
    exact Nat.eq_of_mul_eq_mul_left hp (by rw [hsm, Nat.mul_one])
theorem edges_both {L : List Int} (hL : IsGraph L) : 2 * (edgesN L + edgesN (otherL L L.length)) = L.length * (L.length - 1) := by
  have h6 := hL.2.1
  have hl := otherL_length L L.length
  have hr := rows_half ⟨L.length, by omega⟩
  dsimp only at hr
  rw [← hr, edges_in h6, edges_in (L := otherL L L.length) (by rw [hl]; exact h6), hl]
  unfold edgesIn
  have key : ∀ ps : List (Nat × Nat), (∀ p ∈ ps, p.1 < p.2 ∧ p.2 < L.length) → (ps.filter fun p => bt L p.1 p.2 == 1).length + (ps.filter fun p => bt (otherL L L.length) p.1 p.2 == 1).length = ps.length := by
    intro ps
    induction ps with
    | nil => intro _; rfl
    | cons p ps ih =>
      intro hp
      have h1 := ih fun q hq => hp q (List.mem_cons_of_mem _ hq)
      obtain ⟨h2, h3⟩ := hp p List.mem_cons_self
      have h4 := other_bt hL (show p.1 < L.length by omega) p.2
      rw [List.filter_cons, List.filter_cons, List.length_cons]
      by_cases h : bt L p.1 p.2 = 1
      · have h5 : ¬ bt (otherL L L.length) p.1 p.2 = 1 := fun x => (h4.1 x).2.1 h
        rw [if_pos (by simpa using h), if_neg (by simpa using h5), List.length_cons]
        omega
      · have h5 := h4.2 ⟨h3, h, by omega⟩
        rw [if_neg (by simpa using h), if_pos (by simpa using h5), List.length_cons]
        omega
  rw [key (rows L.length) fun p hp => rows_mem _ p hp]
end Go.Proofs.YtcemhepojjbcgaaDoor
