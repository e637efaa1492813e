/- How near graphs are: both ways the same, the same for both other graphs, 0 just for graphs that are alike; the difference of the edges. Plain mathematics. -/
import Derived.Test.YtamabhdbcmjbjaaDoorNearMath
import Derived.Test.YtamabhdbcmjbjaaDoorBaseG
import Derived.Test.YtamabhdbcmjbjaaDoorOtherGraph
import Derived.Test.YtamabhdbcmjbjaaDoorThreeMath
import Derived.Test.YtamabhdbcmjbjaaDoorPcfOr
namespace Go.Proofs.YtamabhdbcmjbjaaDoor
open Go Go.RowKit
set_option linter.unusedVariables false
set_option maxRecDepth 100000

theorem bt_symN {L : List Int} (hg : IsGraph L) {i j : Nat} (hi : i < L.length) (hj : j < L.length) : bt L i j = bt L j i := by
  rcases Nat.lt_trichotomy i j with h | h | h
  · exact ((hg.2.2 j hj).2.2 i h).symm
  · rw [h]
  · exact (hg.2.2 i hi).2.2 j h
def nearD (L M : List Int) : Nat := unlike L M (nearN L M)
theorem nearTo_le (L M : List Int) (b : List Nat) (R : List (List Nat)) : unlike L M (nearTo L M b R) ≤ unlike L M b ∧ ∀ P ∈ R, unlike L M (nearTo L M b R) ≤ unlike L M P := by
  induction R using snoc_ind with
  | h0 => exact ⟨Nat.le_refl _, fun P hP => by cases hP⟩
  | h1 l x ih =>
    rw [nearTo_append, nearTo_one]
    by_cases h : unlike L M x < unlike L M (nearTo L M b l)
    · rw [if_pos h]
      refine ⟨Nat.le_trans (Nat.le_of_lt h) ih.1, fun P hP => ?_⟩
      rcases List.mem_append.1 hP with hP | hP
      · exact Nat.le_trans (Nat.le_of_lt h) (ih.2 P hP)
      · rw [List.mem_singleton] at hP; rw [hP]; exact Nat.le_refl _
    · rw [if_neg h]
      refine ⟨ih.1, fun P hP => ?_⟩
      rcases List.mem_append.1 hP with hP | hP
      · exact ih.2 P hP
      · rw [List.mem_singleton] at hP; rw [hP]; omega
theorem near_least {L : List Int} (M : List Int) {P : List Nat} (hP : Names L.length L.length P) : nearD L M ≤ unlike L M P :=
  (nearTo_le L M _ _).2 P (perms_all _ _ P hP)
/-! ### both ways -/
def unlI (L M : List Int) (P : List Nat) (a b : Nat) : Nat := if bt L a b = bt M (at_ P a) (at_ P b) then 0 else 1
theorem unlTo_pairs (L M : List Int) (P : List Nat) (ps : List (Nat × Nat)) : unlTo L M P ps = pairsN (unlI L M P) ps := by
  induction ps using snoc_ind with
  | h0 => rfl
  | h1 l x ih =>
    rw [unlTo_snoc, pairsN_snoc, ih]
    congr 1
    unfold unlB unlI
    by_cases h : bt L x.1 x.2 = bt M (at_ P x.1) (at_ P x.2) <;> simp [h]
theorem unlike_twice {L M : List Int} (hL : IsGraph L) (hM : IsGraph M) (hl : L.length = M.length) {P : List Nat} (hP : Names L.length L.length P) :
    sumN (fun a => sumN (fun b => unlI L M P a b) L.length) L.length = 2 * unlike L M P := by
  unfold unlike
  rw [hP.1, unlTo_pairs, pairsN_rows]
  refine sum_sym (unlI L M P) L.length (fun i j hi hj => ?_) fun i hi => ?_
  · unfold unlI
    rw [bt_symN hL hi hj, bt_symN hM (by rw [← hl]; exact at_name hP hi) (by rw [← hl]; exact at_name hP hj)]
  · unfold unlI
    rw [(hL.2.2 i hi).2.1, (hM.2.2 _ (by rw [← hl]; exact at_name hP hi)).2.1, if_pos rfl]
theorem sumN_listN (f : Nat → Nat) (n : Nat) : sumN f n = ((List.range n).map f).sum := by
  induction n with
  | zero => rfl
  | succ n ih => rw [sumN, ih, List.range_succ, List.map_append, List.sum_append]; simp
theorem sumN_namesN {n : Nat} {P : List Nat} (h : Names n n P) (f : Nat → Nat) : sumN (fun u => f (at_ P u)) n = sumN f n := by
  have hp : P.Perm (List.range n) := (List.perm_ext_iff_of_nodup h.2.1 List.nodup_range).2 fun x => by
    rw [List.mem_range]
    refine ⟨h.2.2 x, fun hx => ?_⟩
    obtain ⟨a, ha, e⟩ := at_surj h hx
    rw [← e]
    unfold at_
    rw [List.getElem?_eq_getElem (by rw [h.1]; exact ha)]
    exact List.getElem_mem _
  have hm : (List.range n).map (fun u => f (at_ P u)) = P.map f := by
    apply List.ext_getElem?
    intro j
    rw [List.getElem?_map, List.getElem?_map]
    by_cases hj : j < n
    · rw [List.getElem?_range hj]
      show some (f (P[j]?.getD 0)) = _
      rw [List.getElem?_eq_getElem (show j < P.length by rw [h.1]; exact hj)]
      rfl
    · rw [List.getElem?_eq_none (by simp; omega), List.getElem?_eq_none (by rw [h.1]; omega)]
      rfl
  rw [sumN_listN, sumN_listN, hm]
  exact (hp.map f).sum_nat
theorem unlike_turn {L M : List Int} (hL : IsGraph L) (hM : IsGraph M) (hl : L.length = M.length) {P : List Nat} (hP : Names L.length L.length P) : unlike M L (invP L.length P) = unlike L M P := by
  have hQ := inv_names hP
  have hQM : Names M.length M.length (invP L.length P) := by rw [← hl]; exact hQ
  have h1 := unlike_twice hL hM hl hP
  have h2 := unlike_twice hM hL hl.symm hQM
  have key : sumN (fun a => sumN (fun b => unlI M L (invP L.length P) a b) M.length) M.length = sumN (fun a => sumN (fun b => unlI L M P a b) L.length) L.length := by
    rw [← hl, ← sumN_namesN hP (fun a => sumN (fun b => unlI M L (invP L.length P) a b) L.length)]
    refine sumN_congr fun a ha => ?_
    rw [← sumN_namesN hP (fun b => unlI M L (invP L.length P) (at_ P a) b)]
    refine sumN_congr fun b hb => ?_
    have hinv : ∀ j, j < L.length → at_ (invP L.length P) (at_ P j) = j := fun j hj => by
      unfold invP
      rw [map_range_at _ _ (at_name hP hj)]
      have h1 := invF_spec hP (at_name hP hj)
      exact at_inj hP h1.1 hj h1.2
    unfold unlI
    rw [hinv a ha, hinv b hb]
    by_cases h : bt L a b = bt M (at_ P a) (at_ P b)
    · rw [if_pos h, if_pos h.symm]
    · rw [if_neg h, if_neg (fun e => h e.symm)]
  omega
theorem nearD_le {L M : List Int} (hL : IsGraph L) (hM : IsGraph M) (hl : L.length = M.length) : nearD M L ≤ nearD L M := by
  have hP := near_names (L := L) (M := M)
  have h := near_least (L := M) L (P := invP L.length (nearN L M)) (by rw [← hl]; exact inv_names hP)
  rw [unlike_turn hL hM hl hP] at h
  exact h
theorem nearD_turn {L M : List Int} (hL : IsGraph L) (hM : IsGraph M) (hl : L.length = M.length) : nearD M L = nearD L M :=
  Nat.le_antisymm (nearD_le hL hM hl) (nearD_le hM hL hl.symm)
/-! ### both other graphs -/
theorem other_flip {L : List Int} (hL : IsGraph L) {i j : Nat} (hi : i < L.length) (hj : j < L.length) (hne : i ≠ j) : bt (otherL L L.length) i j + bt L i j = 1 := by
  have h := other_bt hL hi j
  have h1 := bt_le L i j
  have h2 := bt_le (otherL L L.length) i j
  by_cases e : bt L i j = 1
  · have : ¬ bt (otherL L L.length) i j = 1 := fun x => (h.1 x).2.1 e
    omega
  · have : bt (otherL L L.length) i j = 1 := h.2 ⟨hj, e, hne⟩
    omega
theorem unlike_other {L M : List Int} (hL : IsGraph L) (hM : IsGraph M) (hl : L.length = M.length) {P : List Nat} (hP : Names L.length L.length P) : unlike (otherL L L.length) (otherL M M.length) P = unlike L M P := by
  unfold unlike unlTo
  rw [hP.1]
  congr 1
  refine List.filter_congr fun e he => ?_
  have hr := rows_mem _ e he
  have ha : e.1 < L.length := Nat.lt_trans hr.1 hr.2
  have f1 := other_flip hL ha hr.2 (Nat.ne_of_lt hr.1)
  have f2 := other_flip hM (i := at_ P e.1) (j := at_ P e.2) (by rw [← hl]; exact at_name hP ha) (by rw [← hl]; exact at_name hP hr.2) (fun x => Nat.ne_of_lt hr.1 (at_inj hP ha hr.2 x))
  unfold unlB
  congr 1
  rw [Bool.eq_iff_iff, beq_iff_eq, beq_iff_eq]
  omega
theorem nearD_other_le {L M : List Int} (hL : IsGraph L) (hM : IsGraph M) (hl : L.length = M.length) : nearD (otherL L L.length) (otherL M M.length) ≤ nearD L M := by
  have hP := near_names (L := L) (M := M)
  have h := near_least (L := otherL L L.length) (otherL M M.length) (P := nearN L M) (by rw [otherL_length]; exact hP)
  rw [unlike_other hL hM hl hP] at h
  exact h
theorem nearD_other {L M : List Int} (hL : IsGraph L) (hM : IsGraph M) (hl : L.length = M.length) : nearD (otherL L L.length) (otherL M M.length) = nearD L M := by
  have hP := near_names (L := otherL L L.length) (M := otherL M M.length)
  have hP' : Names L.length L.length (nearN (otherL L L.length) (otherL M M.length)) := by rw [otherL_length] at hP; exact hP
  refine Nat.le_antisymm (nearD_other_le hL hM hl) ?_
  show nearD L M ≤ unlike (otherL L L.length) (otherL M M.length) _
  rw [unlike_other hL hM hl hP']
  exact near_least M hP'
/-! ### alike -/
theorem near15 {L : List Int} (hg : IsGraph L) : codeOf L < 2 ^ 15 := Nat.lt_of_lt_of_le (code_lt L) (Nat.pow_le_pow_right (n := 2) (by decide) (rows_length _ hg.2.1))
theorem xor_self_of {a b : Nat} (h : a ^^^ b = 0) : a = b := by
  have h2 : (a ^^^ b) ^^^ b = 0 ^^^ b := by rw [h]
  rw [Nat.xor_assoc, Nat.xor_self, Nat.xor_zero, Nat.zero_xor] at h2
  exact h2
theorem near_zero {L M : List Int} (hL : IsGraph L) (hM : IsGraph M) (hl : L.length = M.length) : nearD L M = 0 ↔ ∃ P, Names L.length L.length P ∧ namedL L P = M := by
  constructor
  · intro h
    have hP := near_names (L := L) (M := M)
    have hN := named_graph hL hP
    have hu := unlike_code hL hM hl hP
    have h2 : unlike L M (nearN L M) = 0 := h
    rw [h2] at hu
    have hx := pcf_pos (Nat.xor_lt_two_pow (near15 hN) (near15 hM)) hu
    have he := xor_self_of hx
    refine ⟨nearN L M, hP, ?_⟩
    have ea := codeG_of hN
    rw [namedL_length, he, hl] at ea
    exact ea.symm.trans (codeG_of hM)
  · rintro ⟨P, hP, e⟩
    have hu := unlike_code hL hM hl hP
    rw [e, Nat.xor_self, pcf_zero] at hu
    have := near_least M hP
    omega
/-! ### edges -/
theorem pcf_xor (f x y : Nat) : pcf f (x ^^^ y) + 2 * pcf f (x &&& y) = pcf f x + pcf f y ∧ pcf f (x &&& y) ≤ pcf f x ∧ pcf f (x &&& y) ≤ pcf f y := by
  induction f generalizing x y with
  | zero => exact ⟨rfl, Nat.le_refl _, Nat.le_refl _⟩
  | succ f ih =>
    have h1 : (x ^^^ y) / 2 = x / 2 ^^^ y / 2 := Nat.xor_div_two
    have h2 : (x &&& y) / 2 = x / 2 &&& y / 2 := Nat.and_div_two
    have h3 := ih (x / 2) (y / 2)
    have h4 : (x ^^^ y) % 2 + 2 * ((x &&& y) % 2) = x % 2 + y % 2 ∧ (x &&& y) % 2 ≤ x % 2 ∧ (x &&& y) % 2 ≤ y % 2 := by
      have b1 : (x ^^^ y) % 2 = 1 ↔ ¬ (x % 2 = 1 ↔ y % 2 = 1) := Nat.xor_mod_two_eq_one
      have b2 : (x &&& y) % 2 = 1 ↔ x % 2 = 1 ∧ y % 2 = 1 := Nat.and_mod_two_eq_one
      generalize (x ^^^ y) = X at b1 ⊢
      generalize (x &&& y) = Y at b2 ⊢
      by_cases ex : x % 2 = 1 <;> by_cases ey : y % 2 = 1 <;> simp only [ex, ey, iff_true, iff_false, and_true, and_false, not_true_eq_false, not_false_eq_true] at b1 b2 <;> omega
    show (x ^^^ y) % 2 + pcf f ((x ^^^ y) / 2) + 2 * ((x &&& y) % 2 + pcf f ((x &&& y) / 2)) = x % 2 + pcf f (x / 2) + (y % 2 + pcf f (y / 2)) ∧ (x &&& y) % 2 + pcf f ((x &&& y) / 2) ≤ x % 2 + pcf f (x / 2) ∧ (x &&& y) % 2 + pcf f ((x &&& y) / 2) ≤ y % 2 + pcf f (y / 2)
    rw [h1, h2]
    omega
theorem near_edges {L M : List Int} (hL : IsGraph L) (hM : IsGraph M) (hl : L.length = M.length) : ∃ k, nearD L M + 2 * k = edgesN L + edgesN M ∧ k ≤ edgesN L ∧ k ≤ edgesN M := by
  have hP := near_names (L := L) (M := M)
  have h := pcf_xor 15 (codeOf (namedL L (nearN L M))) (codeOf M)
  rw [unlike_code hL hM hl hP] at h
  have e1 : pcf 15 (codeOf (namedL L (nearN L M))) = edgesN L := edges_named hL hP
  have e2 : pcf 15 (codeOf M) = edgesN M := rfl
  rw [e1, e2] at h
  exact ⟨_, h⟩
end Go.Proofs.YtamabhdbcmjbjaaDoor
