/- Names one behind another, and back; alike graphs have one least code and as many edges. Plain mathematics, no condition. -/
import Derived.Test.YtcblcifnpgmibaaDoorCodes
import Derived.Test.YtcblcifnpgmibaaDoorBaseA
namespace Go.Proofs.YtcblcifnpgmibaaDoor
open Go Go.RowKit
set_option linter.unusedVariables false
set_option maxRecDepth 100000

theorem range_perms (n : Nat) : ∀ k, k ≤ n → List.range k ∈ permsTo n k
  | 0, _ => by simp [permsTo, extK]
  | k + 1, h => by
    rw [permsTo_succ]
    refine List.mem_flatMap.2 ⟨List.range k, range_perms n k (by omega), ?_⟩
    unfold ext
    exact List.mem_map.2 ⟨k, mem_left.2 ⟨by omega, by simp⟩, List.range_succ.symm⟩
theorem at_range {n i v : Nat} (hv : v < i) (hi : i ≤ n) : at_ ((List.range n).take i) v = v := by
  rw [take_at hv]
  unfold at_
  simp [show v < n by omega]
theorem id_okC {L : List Int} (hL : IsGraph L) : okC L L (List.range L.length) = true := by
  have hp := range_perms L.length L.length (Nat.le_refl _)
  have hn := perms_names _ _ _ hp
  unfold okC
  rw [beq_iff_eq]
  refine (ok_iff hL hL rfl hn).1 ?_
  rw [okFrom_iff]
  intro i _ hi
  rw [List.length_range] at hi
  have hl : ((List.range L.length).take (i + 1)).length = i + 1 := by rw [List.length_take, List.length_range]; omega
  unfold fitB
  rw [List.all_eq_true]
  intro v hv
  rw [List.mem_range, hl] at hv
  unfold okAt
  rw [hl, at_range (by omega) (by omega), at_range (by omega) (by omega)]
  simp

theorem perms_all (n : Nat) : ∀ (k : Nat) (P : List Nat), Names n k P → P ∈ permsTo n k
  | 0, P, h => by
    have e : P = [] := List.eq_nil_of_length_eq_zero h.1
    subst e
    simp [permsTo, extK]
  | k + 1, P, h => by
    have hk : k < P.length := by rw [h.1]; omega
    have e : P = P.take k ++ [P[k]] := by rw [← List.take_succ_eq_append_getElem hk, ← h.1, List.take_length]
    have hnd := h.2.1
    rw [e, List.nodup_append] at hnd
    have ht : Names n k (P.take k) := ⟨by rw [List.length_take, h.1]; omega, hnd.1, fun x hx => h.2.2 x (List.mem_of_mem_take hx)⟩
    rw [permsTo_succ]
    refine List.mem_flatMap.2 ⟨P.take k, perms_all n k _ ht, ?_⟩
    unfold ext
    refine List.mem_map.2 ⟨P[k], mem_left.2 ⟨h.2.2 _ (List.getElem_mem _), fun hm => hnd.2.2 _ hm _ (by simp) rfl⟩, e.symm⟩

theorem map_range_at (n : Nat) (f : Nat → Nat) {v : Nat} (hv : v < n) : at_ ((List.range n).map f) v = f v := by
  unfold at_
  simp [hv]
theorem map_range_names {n : Nat} {f : Nat → Nat} (h : ∀ v, v < n → f v < n) (hi : ∀ a b, a < n → b < n → f a = f b → a = b) : Names n n ((List.range n).map f) := by
  refine ⟨by simp, ?_, fun x hx => ?_⟩
  · unfold List.Nodup
    rw [List.pairwise_map]
    exact List.Pairwise.imp_of_mem (fun {a b} ha hb hne he => hne (hi a b (List.mem_range.1 ha) (List.mem_range.1 hb) he)) List.nodup_range
  · obtain ⟨v, hv, rfl⟩ := List.mem_map.1 hx
    exact h v (List.mem_range.1 hv)
theorem at_name {n : Nat} {P : List Nat} (h : Names n n P) {v : Nat} (hv : v < n) : at_ P v < n := at_lt h.2.2 (by rw [h.1]; exact hv)

def compP (n : Nat) (P Q : List Nat) : List Nat := (List.range n).map fun v => at_ Q (at_ P v)
theorem comp_names {n : Nat} {P Q : List Nat} (hP : Names n n P) (hQ : Names n n Q) : Names n n (compP n P Q) :=
  map_range_names (fun v hv => at_name hQ (at_name hP hv)) (fun a b ha hb e => at_inj hP ha hb (at_inj hQ (at_name hP ha) (at_name hP hb) e))
def invF (n : Nat) (P : List Nat) (j : Nat) : Nat := ((List.range n).find? fun a => at_ P a == j).getD 0
theorem invF_spec {n : Nat} {P : List Nat} (hP : Names n n P) {j : Nat} (hj : j < n) : invF n P j < n ∧ at_ P (invF n P j) = j := by
  obtain ⟨a, ha, e⟩ := at_surj hP hj
  unfold invF
  cases h : (List.range n).find? fun a => at_ P a == j with
  | none =>
    have h1 := List.find?_eq_none.1 h a (List.mem_range.2 ha)
    simp [e] at h1
  | some b =>
    have h1 := List.find?_some h
    have h2 := List.mem_of_find?_eq_some h
    exact ⟨List.mem_range.1 h2, by simpa using h1⟩
def invP (n : Nat) (P : List Nat) : List Nat := (List.range n).map (invF n P)
theorem inv_names {n : Nat} {P : List Nat} (hP : Names n n P) : Names n n (invP n P) :=
  map_range_names (fun v hv => (invF_spec hP hv).1) (fun a b ha hb e => by rw [← (invF_spec hP ha).2, ← (invF_spec hP hb).2, e])

theorem named_comp {L : List Int} (hL : IsGraph L) {P Q : List Nat} (hP : Names L.length L.length P) (hQ : Names L.length L.length Q) : namedL (namedL L P) Q = namedL L (compP L.length P Q) := by
  have hl := namedL_length L P
  have hC := comp_names hP hQ
  have hQ' : Names (namedL L P).length (namedL L P).length Q := by rw [hl]; exact hQ
  refine graph_ext (named_graph (named_graph hL hP) hQ') (named_graph hL hC) (by rw [namedL_length, namedL_length, namedL_length]) fun i j hi hj => ?_
  rw [namedL_length, hl] at hi hj
  obtain ⟨a, ha, ea⟩ := at_surj hC hi
  obtain ⟨b, hb, eb⟩ := at_surj hC hj
  have e1 : i = at_ Q (at_ P a) := by rw [← ea]; unfold compP; rw [map_range_at _ _ ha]
  have e2 : j = at_ Q (at_ P b) := by rw [← eb]; unfold compP; rw [map_range_at _ _ hb]
  have h1 : bt (namedL L (compP L.length P Q)) i j = bt L a b := by rw [← ea, ← eb]; exact named_at hC ha hb
  rw [h1, e1, e2, named_at hQ' (by rw [hl]; exact at_name hP ha) (by rw [hl]; exact at_name hP hb), named_at hP ha hb]
theorem named_inv {L : List Int} (hL : IsGraph L) {P : List Nat} (hP : Names L.length L.length P) : namedL (namedL L P) (invP L.length P) = L := by
  have hl := namedL_length L P
  have hI := inv_names hP
  have hI' : Names (namedL L P).length (namedL L P).length (invP L.length P) := by rw [hl]; exact hI
  have hat : ∀ i, i < L.length → at_ (invP L.length P) (at_ P i) = i := fun i hi => by
    unfold invP
    rw [map_range_at _ _ (at_name hP hi)]
    have h1 := invF_spec hP (at_name hP hi)
    exact at_inj hP h1.1 hi h1.2
  refine graph_ext (named_graph (named_graph hL hP) hI') hL (by rw [namedL_length, hl]) fun i j hi hj => ?_
  rw [namedL_length, hl] at hi hj
  have h1 := named_at hI' (L := namedL L P) (a := at_ P i) (b := at_ P j) (by rw [hl]; exact at_name hP hi) (by rw [hl]; exact at_name hP hj)
  rw [hat i hi, hat j hj] at h1
  rw [h1, named_at hP hi hj]
theorem named_id {L : List Int} (hL : IsGraph L) : namedL L (List.range L.length) = L := by
  have h := id_okC hL
  unfold okC at h
  rw [beq_iff_eq] at h
  exact code_inj (named_graph hL (perms_names _ _ _ (range_perms _ _ (Nat.le_refl _)))) hL (namedL_length _ _) h

/-! ### edges -/
theorem count_le {α : Type} [DecidableEq α] (p : α → Bool) : ∀ (l1 l2 : List α), l1.Nodup → (∀ x ∈ l1, x ∈ l2) → (l1.filter p).length ≤ (l2.filter p).length
  | [], _, _, _ => by simp
  | x :: l1, l2, hn, hs => by
    have hx := hs x List.mem_cons_self
    have hn' := List.nodup_cons.1 hn
    have ih := count_le p l1 (l2.erase x) hn'.2 (fun y hy => (List.mem_erase_of_ne (fun e => hn'.1 (by rw [← e]; exact hy))).2 (hs y (List.mem_cons_of_mem _ hy)))
    have hp := ((List.perm_cons_erase hx).filter p).length_eq
    rw [hp, List.filter_cons, List.filter_cons]
    by_cases h : p x = true
    · rw [if_pos h, if_pos h]; simp; omega
    · rw [if_neg h, if_neg h]; exact ih
theorem rows_nodup : ∀ n : Fin 7, (rows n.val).Nodup := by decide
theorem edges_in {L : List Int} (h6 : L.length ≤ 6) : edgesN L = (edgesIn L (rows L.length)).length := pc_crun L _ (rows_length L.length h6)
def pairUp (P : List Nat) (x : Nat × Nat) : Nat × Nat := (min (at_ P x.1) (at_ P x.2), max (at_ P x.1) (at_ P x.2))
set_option maxHeartbeats 2000000 in
theorem edges_le {L : List Int} (hL : IsGraph L) {P : List Nat} (hP : Names L.length L.length P) : edgesN L ≤ edgesN (namedL L P) := by
  have h6 := hL.2.1
  have hl := namedL_length L P
  have hN := named_graph hL hP
  rw [edges_in h6, edges_in (L := namedL L P) (by rw [hl]; exact h6), hl]
  unfold edgesIn
  have hmem : ∀ x ∈ rows L.length, x.1 < x.2 ∧ x.2 < L.length := fun x hx => (rows_all L.length x.1 x.2).1 hx
  have hnd : ((rows L.length).map (pairUp P)).Nodup := by
    unfold List.Nodup
    rw [List.pairwise_map]
    refine List.Pairwise.imp_of_mem (fun {x y} hx hy hne he => hne ?_) (rows_nodup ⟨L.length, by omega⟩)
    obtain ⟨x1, x2⟩ := hmem x hx
    obtain ⟨y1, y2⟩ := hmem y hy
    unfold pairUp at he
    injection he with e1 e2
    have n1 : at_ P x.1 ≠ at_ P x.2 := fun e => by have := at_inj hP (by omega) (by omega) e; omega
    have n2 : at_ P y.1 ≠ at_ P y.2 := fun e => by have := at_inj hP (by omega) (by omega) e; omega
    have h3 : (at_ P x.1 = at_ P y.1 ∧ at_ P x.2 = at_ P y.2) ∨ (at_ P x.1 = at_ P y.2 ∧ at_ P x.2 = at_ P y.1) := by omega
    rcases h3 with ⟨h3, h4⟩ | ⟨h3, h4⟩
    · exact Prod.ext (at_inj hP (by omega) (by omega) h3) (at_inj hP (by omega) (by omega) h4)
    · have := at_inj hP (by omega) (by omega) h3
      have := at_inj hP (by omega) (by omega) h4
      omega
  have hsub : ∀ x ∈ (rows L.length).map (pairUp P), x ∈ rows L.length := fun x hx => by
    obtain ⟨y, hy, rfl⟩ := List.mem_map.1 hx
    obtain ⟨y1, y2⟩ := hmem y hy
    have n2 : at_ P y.1 ≠ at_ P y.2 := fun e => by have := at_inj hP (by omega) (by omega) e; omega
    have m1 := at_name hP (show y.1 < L.length by omega)
    have m2 := at_name hP (show y.2 < L.length by omega)
    refine (rows_all L.length _ _).2 ⟨?_, ?_⟩
    · show min (at_ P y.1) (at_ P y.2) < max (at_ P y.1) (at_ P y.2); omega
    · show max (at_ P y.1) (at_ P y.2) < L.length; omega
  refine Nat.le_trans (Nat.le_of_eq ?_) (count_le (fun p => bt (namedL L P) p.1 p.2 == 1) _ _ hnd hsub)
  rw [List.filter_map, List.length_map]
  congr 1
  refine List.filter_congr fun x hx => ?_
  obtain ⟨x1, x2⟩ := hmem x hx
  have m1 := at_name hP (show x.1 < L.length by omega)
  have m2 := at_name hP (show x.2 < L.length by omega)
  have h := named_at hP (show x.1 < L.length by omega) (show x.2 < L.length by omega)
  show (bt L x.1 x.2 == 1) = (bt (namedL L P) (min (at_ P x.1) (at_ P x.2)) (max (at_ P x.1) (at_ P x.2)) == 1)
  rcases Nat.le_total (at_ P x.1) (at_ P x.2) with h1 | h1
  · rw [Nat.min_eq_left h1, Nat.max_eq_right h1, h]
  · rw [Nat.min_eq_right h1, Nat.max_eq_left h1, bt_sym hN (by rw [hl]; exact m2) (by rw [hl]; exact m1), h]
theorem edges_named {L : List Int} (hL : IsGraph L) {P : List Nat} (hP : Names L.length L.length P) : edgesN (namedL L P) = edgesN L := by
  have hl := namedL_length L P
  have h1 := edges_le hL hP
  have h2 := edges_le (named_graph hL hP) (P := invP L.length P) (by rw [hl]; exact inv_names hP)
  rw [named_inv hL hP] at h2
  omega

/-! ### the least code -/
def minTo (L : List Int) (R : List (List Nat)) : Nat := R.foldl (fun b P => min b (codeOf (namedL L P))) (codeOf L)
theorem minTo_nil (L : List Int) : minTo L [] = codeOf L := rfl
theorem minTo_snoc (L : List Int) (R : List (List Nat)) (P : List Nat) : minTo L (R ++ [P]) = min (minTo L R) (codeOf (namedL L P)) := by simp [minTo]
theorem minTo_le (L : List Int) (R : List (List Nat)) : ∀ P ∈ R, minTo L R ≤ codeOf (namedL L P) := by
  induction R using snoc_ind with
  | h0 => intro P hP; cases hP
  | h1 l x ih =>
    intro P hP
    rw [minTo_snoc]
    rcases List.mem_append.1 hP with h | h
    · exact Nat.le_trans (Nat.min_le_left _ _) (ih P h)
    · rw [List.mem_singleton.1 h]; exact Nat.min_le_right _ _
theorem minTo_is (L : List Int) (R : List (List Nat)) : minTo L R = codeOf L ∨ ∃ P ∈ R, minTo L R = codeOf (namedL L P) := by
  induction R using snoc_ind with
  | h0 => exact .inl rfl
  | h1 l x ih =>
    rw [minTo_snoc]
    rcases Nat.le_total (minTo L l) (codeOf (namedL L x)) with h | h
    · rw [Nat.min_eq_left h]
      rcases ih with e | ⟨P, hP, e⟩
      · exact .inl e
      · exact .inr ⟨P, by simp [hP], e⟩
    · rw [Nat.min_eq_right h]
      exact .inr ⟨x, by simp, rfl⟩
def leastL (L : List Int) : Nat := minTo L (permsTo L.length L.length)
theorem least_le {L : List Int} {P : List Nat} (hP : Names L.length L.length P) : leastL L ≤ codeOf (namedL L P) := minTo_le L _ P (perms_all _ _ P hP)
theorem least_is {L : List Int} (hL : IsGraph L) : ∃ P, Names L.length L.length P ∧ leastL L = codeOf (namedL L P) := by
  rcases minTo_is L (permsTo L.length L.length) with e | ⟨P, hP, e⟩
  · exact ⟨_, perms_names _ _ _ (range_perms _ _ (Nat.le_refl _)), by rw [named_id hL]; exact e⟩
  · exact ⟨P, perms_names _ _ _ hP, e⟩
theorem least_named {L : List Int} (hL : IsGraph L) {P : List Nat} (hP : Names L.length L.length P) : leastL (namedL L P) = leastL L := by
  have hl := namedL_length L P
  have hN := named_graph hL hP
  refine Nat.le_antisymm ?_ ?_
  · obtain ⟨R, hR, e⟩ := least_is hL
    have hI := inv_names hP
    have hC := comp_names hI hR
    have h1 := named_comp (L := namedL L P) hN (P := invP L.length P) (Q := R) (by rw [hl]; exact hI) (by rw [hl]; exact hR)
    rw [named_inv hL hP, hl] at h1
    rw [e, h1]
    exact least_le (by rw [hl]; exact hC)
  · obtain ⟨R, hR, e⟩ := least_is hN
    rw [hl] at hR
    rw [e, named_comp hL hP hR]
    exact least_le (comp_names hP hR)
/-- **Alike by names, and by least codes.** -/
theorem alike_iff {L M : List Int} (hL : IsGraph L) (hM : IsGraph M) (hl : L.length = M.length) : likeL L M ≠ [] ↔ (edgesN L = edgesN M ∧ leastL L = leastL M) := by
  rw [likeL_codes hL hM hl]
  constructor
  · intro h
    obtain ⟨P, hP⟩ := List.exists_mem_of_ne_nil _ h
    obtain ⟨h1, h2⟩ := List.mem_filter.1 hP
    have hn := perms_names _ _ _ h1
    unfold okC at h2
    rw [beq_iff_eq] at h2
    have e := code_inj (named_graph hL hn) hM (by rw [namedL_length, hl]) h2
    rw [← e]
    exact ⟨(edges_named hL hn).symm, (least_named hL hn).symm⟩
  · rintro ⟨_, h⟩
    obtain ⟨P, hP, e1⟩ := least_is hL
    obtain ⟨Q, hQ, e2⟩ := least_is hM
    have e := code_inj (named_graph hL hP) (named_graph hM hQ) (by rw [namedL_length, namedL_length, hl]) (by rw [← e1, ← e2, h])
    have hQ' : Names L.length L.length Q := by rw [hl]; exact hQ
    have h1 := named_inv hM hQ
    rw [← e, ← hl, named_comp hL hP (inv_names hQ')] at h1
    refine List.ne_nil_of_mem (a := compP L.length P (invP L.length Q)) (List.mem_filter.2 ⟨perms_all _ _ _ (comp_names hP (inv_names hQ')), ?_⟩)
    unfold okC
    rw [h1, beq_self_eq_true]
#print axioms alike_iff
end Go.Proofs.YtcblcifnpgmibaaDoor
