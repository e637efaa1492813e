/- The number of trees does not change under naming. Plain mathematics. -/
import Derived.Test.YtkngijkhhonikaaDoorTreesSpec
import Derived.Test.YtkngijkhhonikaaDoorBaseA
import Derived.Test.YtkngijkhhonikaaDoorBaseG
namespace Go.Proofs.YtkngijkhhonikaaDoor
open Go Go.RowKit
set_option linter.unusedVariables false
set_option maxRecDepth 100000

/-! ### linked, in other words -/
theorem bt_bitT (L : List Int) (i j : Nat) : bt L i j = 1 ↔ (ent L i).testBit j = true := by
  unfold bt
  rw [Nat.testBit_eq_decide_div_mod_eq, decide_eq_true_eq]
theorem turn_inP {L : List Int} {S : Nat → Prop} (hc : ∀ v, v < L.length → S v → ∀ j, (ent L v).testBit j = true → S j) {s : Nat} (hs : ∀ j, s.testBit j = true → S j) (k : Nat) (hk : k ≤ L.length) :
    ∀ j, (turn L s k).testBit j = true → S j := by
  induction k with
  | zero => exact hs
  | succ k ih =>
    rw [turn_succ]
    have h1 := ih (by omega)
    unfold grow
    split
    · rename_i hb
      intro j hj
      rw [Nat.testBit_or, Bool.or_eq_true] at hj
      rcases hj with h | h
      · exact h1 j h
      · exact hc k (by omega) (h1 k hb) j h
    · exact h1
theorem turns_inP {L : List Int} {S : Nat → Prop} (hc : ∀ v, v < L.length → S v → ∀ j, (ent L v).testBit j = true → S j) (h0 : S 0) (k : Nat) : ∀ j, (turns L k).testBit j = true → S j := by
  induction k with
  | zero =>
    intro j hj
    have e : j = 0 := by
      have h := Nat.testBit_one_eq_true_iff_self_eq_zero.1 hj
      exact h
    rw [e]; exact h0
  | succ k ih => exact turn_inP hc ih _ (Nat.le_refl _)
/-- What is closed under ways and has one node has all of them. -/
def Conn (L : List Int) : Prop := ∀ S : Nat → Prop, (∀ v w, v < L.length → w < L.length → S v → bt L v w = 1 → S w) → ∀ v, v < L.length → S v → ∀ w, w < L.length → S w
theorem conn_turns {L : List Int} (hg : IsGraph L) : turns L L.length = 2 ^ L.length - 1 ↔ Conn L := by
  have h1 := hg.1
  have hlt : ∀ v, v < L.length → ent L v < 2 ^ L.length := fun v hv => ent_lt (hg.2.2 v hv).1
  constructor
  · intro h
    have from0 : ∀ S : Nat → Prop, (∀ v w, v < L.length → w < L.length → S v → bt L v w = 1 → S w) → S 0 → ∀ w, w < L.length → S w := fun S hc h0 w hw => by
      have hin := turns_inP (L := L) (S := fun j => j < L.length → S j) (fun v hv hS j hj hjn => hc v j hv hjn (hS hv) ((bt_bitT L v j).2 hj)) (fun _ => h0) L.length
      refine hin w ?_ hw
      rw [h, Nat.testBit_two_pow_sub_one]
      simpa using hw
    intro S hc v hv hS w hw
    refine from0 S hc ?_ w hw
    refine Classical.byContradiction fun h0 => ?_
    exact from0 (fun x => ¬ S x) (fun a b ha hb hna hab hSb => hna (hc b a hb ha hSb (by rw [← bt_sym hg ha hb]; exact hab))) h0 v hv hS
  · intro h
    have hcl := turns_closed h1 hlt
    have hall := h (fun j => (turns L L.length).testBit j = true) (fun v w hv hw hS hb => hcl v hv hS w ((bt_bitT L v w).1 hb)) 0 (by omega) (turns_has L L.length 0 (by decide))
    have hl := turns_lt (m := L.length) h1 hlt L.length
    refine Nat.eq_of_testBit_eq fun j => ?_
    rw [Nat.testBit_two_pow_sub_one]
    by_cases hj : j < L.length
    · rw [hall j hj]; simp [hj]
    · rw [Nat.testBit_lt_two_pow (Nat.lt_of_lt_of_le hl (Nat.pow_le_pow_right (by omega) (by omega)))]; simp [hj]
theorem conn_named {L : List Int} {P : List Nat} (hP : Names L.length L.length P) (h : Conn L) : Conn (namedL L P) := by
  intro S hc v hv hS w hw
  rw [namedL_length] at hv hw hc
  obtain ⟨a, ha, ea⟩ := at_surj hP hv
  obtain ⟨b, hb, eb⟩ := at_surj hP hw
  have := h (fun x => S (at_ P x)) (fun x y hx hy hSx hxy => hc _ _ (at_name hP hx) (at_name hP hy) hSx (by rw [named_at hP hx hy]; exact hxy)) a ha (by rw [ea]; exact hS) b hb
  rw [eb] at this
  exact this
/-- A graph that is a tree. -/
def TreeP (D : List Int) : Prop := edgesN D = D.length - 1 ∧ Conn D
theorem treeP_named {D : List Int} (hg : IsGraph D) {P : List Nat} (hP : Names D.length D.length P) (h : TreeP D) : TreeP (namedL D P) :=
  ⟨by rw [edges_named hg hP, namedL_length]; exact h.1, conn_named hP h.2⟩
theorem treeB_is {n s : Nat} (h1 : 1 ≤ n) (h6 : n ≤ 6) (hs : s < 2 ^ (rows n).length) : treeB n s = true ↔ TreeP (codeG n s) := by
  have hg := codeG_graph (n := n) s h1 h6
  have hl := codeG_length n s
  unfold treeB TreeP edgesN
  rw [codeG_code h6 hs, ← conn_turns hg, hl, Bool.and_eq_true, beq_iff_eq, beq_iff_eq]

/-! ### a set of edges of another one -/
theorem sub_edges {D L : List Int} (hD : IsGraph D) (hL : IsGraph L) (hl : D.length = L.length) : codeOf D &&& codeOf L = codeOf D ↔ ∀ a b, a < L.length → b < L.length → bt D a b = 1 → bt L a b = 1 := by
  have tb : ∀ (M : List Int) (t : Nat) (e : Nat × Nat), (rows M.length)[t]? = some e → ((codeOf M).testBit t = true ↔ bt M e.1 e.2 = 1) := fun M t e h => by
    rw [Nat.testBit_eq_decide_div_mod_eq, decide_eq_true_eq, code_bit h]
  constructor
  · intro h
    have key : ∀ x y, x < y → y < L.length → bt D x y = 1 → bt L x y = 1 := fun x y hxy hy hb => by
      obtain ⟨t, ht⟩ := rows_at hxy hy
      have h1 := (tb D t (x, y) (by rw [hl]; exact ht)).2 hb
      rw [← h, Nat.testBit_and, Bool.and_eq_true] at h1
      exact (tb L t (x, y) ht).1 h1.2
    intro a b ha hb hab
    rcases Nat.lt_trichotomy a b with h1 | h1 | h1
    · exact key a b h1 hb hab
    · subst h1
      have := (hD.2.2 a (by omega)).2.1
      first | omega | (rw [this] at hab; cases hab)
    · rw [bt_sym hL ha hb]
      rw [bt_sym hD (by omega) (by omega)] at hab
      exact key b a h1 ha hab
  · intro h
    refine Nat.eq_of_testBit_eq fun t => ?_
    rw [Nat.testBit_and]
    by_cases ht : t < (rows L.length).length
    · have e := List.getElem?_eq_getElem ht
      have h1 := tb D t _ (by rw [hl]; exact e)
      have h2 := tb L t _ e
      have h3 := rows_get e
      have h4 := h (rows L.length)[t].1 (rows L.length)[t].2 (by omega) h3.2
      cases c1 : (codeOf D).testBit t
      · rfl
      · rw [h2.2 (h4 (h1.1 c1))]; rfl
    · have h1 := code_lt D
      rw [hl] at h1
      rw [Nat.testBit_lt_two_pow (Nat.lt_of_lt_of_le h1 (Nat.pow_le_pow_right (by omega) (by omega)))]
      rfl

/-! ### counted -/
def treeList (L : List Int) : List Nat := (List.range 32768).filter fun s => decide (s &&& codeOf L = s ∧ treeB L.length s = true)
theorem sumN_filter (p : Nat → Prop) [DecidablePred p] (n : Nat) : sumN (fun s => if p s then 1 else 0) n = ((List.range n).filter fun s => decide (p s)).length := by
  induction n with
  | zero => rfl
  | succ n ih =>
    rw [sumN, ih, List.range_succ, List.filter_append, List.length_append]
    by_cases h : p n
    · rw [if_pos h, List.filter_cons_of_pos (by simpa using h)]; rfl
    · rw [if_neg h, List.filter_cons_of_neg (by simpa using h)]; rfl
theorem treesN_len (L : List Int) : treesN L = (treeList L).length := sumN_filter _ _
theorem treeList_mem {L : List Int} (hg : IsGraph L) {s : Nat} : s ∈ treeList L ↔ s &&& codeOf L = s ∧ treeB L.length s = true := by
  unfold treeList
  rw [List.mem_filter, List.mem_range, decide_eq_true_eq]
  refine ⟨fun h => h.2, fun h => ⟨?_, h⟩⟩
  have h1 := sub_le h.1
  have h2 := code_lt L
  have h3 : (2 : Nat) ^ (rows L.length).length ≤ 2 ^ 15 := Nat.pow_le_pow_right (by omega) (rows_length _ hg.2.1)
  have h4 : (2 : Nat) ^ 15 = 32768 := rfl
  omega
theorem treeList_nodup (L : List Int) : (treeList L).Nodup := List.nodup_range.filter _
theorem nodup_mapI {f : Nat → Nat} : ∀ {xs : List Nat}, xs.Nodup → (∀ a ∈ xs, ∀ b ∈ xs, f a = f b → a = b) → (xs.map f).Nodup
  | [], _, _ => by simp
  | x :: xs, h, hi => by
    obtain ⟨h1, h2⟩ := List.nodup_cons.1 h
    rw [List.map_cons, List.nodup_cons]
    refine ⟨fun hm => ?_, nodup_mapI h2 fun a ha b hb => hi a (List.mem_cons_of_mem _ ha) b (List.mem_cons_of_mem _ hb)⟩
    obtain ⟨y, hy, e⟩ := List.mem_map.1 hm
    have := hi y (List.mem_cons_of_mem _ hy) x (List.mem_cons_self ..) e
    exact h1 (this ▸ hy)
theorem trees_le {L : List Int} (hg : IsGraph L) {P : List Nat} (hP : Names L.length L.length P) : treesN L ≤ treesN (namedL L P) := by
  have h1 := hg.1
  have h6 := hg.2.1
  have hML := namedL_length L P
  have hM := named_graph hg hP
  have hlt : ∀ s, s ∈ treeList L → s < 2 ^ (rows L.length).length := fun s hs => Nat.lt_of_le_of_lt (sub_le ((treeList_mem hg).1 hs).1) (code_lt L)
  have hD : ∀ s, IsGraph (codeG L.length s) := fun s => codeG_graph s h1 h6
  have hDl : ∀ s, (codeG L.length s).length = L.length := fun s => codeG_length L.length s
  have hDP : ∀ s, Names (codeG L.length s).length (codeG L.length s).length P := fun s => by rw [hDl s]; exact hP
  rw [treesN_len, treesN_len, ← List.length_map (f := fun s => codeOf (namedL (codeG L.length s) P))]
  refine nodup_len (nodup_mapI (treeList_nodup L) fun a ha b hb e => ?_) fun x hx => ?_
  · have e1 := code_inj (named_graph (hD a) (hDP a)) (named_graph (hD b) (hDP b)) (by rw [namedL_length, namedL_length, hDl, hDl]) e
    have e2 := named_inv (hD a) (hDP a)
    have e3 := named_inv (hD b) (hDP b)
    rw [hDl] at e2 e3
    rw [e1, e3] at e2
    rw [← codeG_code h6 (hlt a ha), ← codeG_code h6 (hlt b hb), e2]
  · obtain ⟨s, hs, rfl⟩ := List.mem_map.1 hx
    have hm := (treeList_mem hg).1 hs
    have hNG := named_graph (hD s) (hDP s)
    have hNl : (namedL (codeG L.length s) P).length = L.length := by rw [namedL_length, hDl]
    have hc := codeG_of hNG
    rw [hNl] at hc
    refine (treeList_mem hM).2 ⟨?_, ?_⟩
    · refine (sub_edges hNG hM (by rw [hNl, hML])).2 fun i j hi hj hb => ?_
      rw [hML] at hi hj
      obtain ⟨a, ha, ea⟩ := at_surj hP hi
      obtain ⟨b, hb', eb⟩ := at_surj hP hj
      rw [← ea, ← eb] at hb ⊢
      rw [named_at (hDP s) (by rw [hDl]; exact ha) (by rw [hDl]; exact hb')] at hb
      rw [named_at hP ha hb']
      have h := (sub_edges (hD s) hg (hDl s)).1 (by rw [codeG_code h6 (hlt s hs)]; exact hm.1)
      exact h a b ha hb' hb
    · rw [hML]
      have hlt2 := code_lt (namedL (codeG L.length s) P)
      rw [hNl] at hlt2
      refine (treeB_is h1 h6 hlt2).2 ?_
      rw [hc]
      exact treeP_named (hD s) (hDP s) ((treeB_is h1 h6 (hlt s hs)).1 hm.2)
theorem trees_named {L : List Int} (hg : IsGraph L) {P : List Nat} (hP : Names L.length L.length P) : treesN (namedL L P) = treesN L := by
  refine Nat.le_antisymm ?_ (trees_le hg hP)
  have hM := named_graph hg hP
  have hI := inv_names hP
  have h := trees_le hM (P := invP L.length P) (by rw [namedL_length]; exact hI)
  rw [named_inv hg hP] at h
  exact h
end Go.Proofs.YtkngijkhhonikaaDoor
