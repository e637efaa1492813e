/- The least code by beginnings: what is not gone on with has no lesser code. Plain mathematics, no condition. -/
import Derived.Test.YtamabhdbcmjbjaaDoorBaseG
namespace Go.Proofs.YtamabhdbcmjbjaaDoor
open Go Go.RowKit
set_option linter.unusedVariables false
set_option maxRecDepth 100000

/-- The place of a pair of a list's places, counted from above. -/
def plD (n i j : Nat) : Nat := (n - 1 - i) * (n - 1 - i - 1) / 2 + (n - 1 - j)
def downTo (L : List Int) (P : List Nat) (ps : List (Nat × Nat)) : Nat := ps.foldl (fun c x => c ||| bt L (at_ P x.1) (at_ P x.2) * 2 ^ plD L.length x.1 x.2) 0
theorem downTo_nil (L : List Int) (P : List Nat) : downTo L P [] = 0 := rfl
theorem downTo_snoc (L : List Int) (P : List Nat) (ps : List (Nat × Nat)) (x : Nat × Nat) : downTo L P (ps ++ [x]) = downTo L P ps ||| bt L (at_ P x.1) (at_ P x.2) * 2 ^ plD L.length x.1 x.2 := by simp [downTo]
def downC (L : List Int) (P : List Nat) : Nat := downTo L P (rows P.length)
theorem downTo_mono (L : List Int) (P : List Nat) (ps qs : List (Nat × Nat)) : downTo L P ps ≤ downTo L P (ps ++ qs) := by
  induction qs using snoc_ind with
  | h0 => rw [List.append_nil]; exact Nat.le_refl _
  | h1 l x ih =>
    rw [← List.append_assoc, downTo_snoc]
    exact Nat.le_trans ih Nat.left_le_or
theorem downTo_congr (L : List Int) {P Q : List Nat} (ps : List (Nat × Nat)) (h : ∀ x ∈ ps, at_ P x.1 = at_ Q x.1 ∧ at_ P x.2 = at_ Q x.2) : downTo L P ps = downTo L Q ps := by
  induction ps using snoc_ind with
  | h0 => rfl
  | h1 l x ih =>
    have hx := h x (by simp)
    rw [downTo_snoc, downTo_snoc, ih (fun y hy => h y (by simp [hy])), hx.1, hx.2]
theorem rows_pref (a : Nat) : ∀ b, a ≤ b → rows a <+: rows b := by
  intro b hb
  obtain ⟨d, rfl⟩ : ∃ d, b = a + d := ⟨b - a, by omega⟩
  clear hb
  induction d with
  | zero => exact List.prefix_refl _
  | succ d ih =>
    refine ih.trans ?_
    unfold rows
    rw [show a + (d + 1) = (a + d) + 1 by omega, List.range_succ, List.flatMap_append]
    exact List.prefix_append _ _
/-- **What begins with a list has no lesser code.** -/
theorem down_le (L : List Int) {P Q : List Nat} (h : Q.take P.length = P) : downC L P ≤ downC L Q := by
  have hl : P.length ≤ Q.length := by
    have := congrArg List.length h
    rw [List.length_take] at this
    omega
  obtain ⟨t, ht⟩ := rows_pref P.length Q.length hl
  unfold downC
  rw [← ht]
  refine Nat.le_trans (Nat.le_of_eq ?_) (downTo_mono L Q (rows P.length) t)
  refine downTo_congr L _ fun x hx => ?_
  obtain ⟨h1, h2⟩ := (rows_all P.length x.1 x.2).1 hx
  have e : ∀ v, v < P.length → at_ P v = at_ Q v := fun v hv => by
    have := take_at (P := Q) (i := P.length) hv
    rw [h] at this
    exact this
  exact ⟨e _ (by omega), e _ h2⟩

theorem pl_row : ∀ (n : Fin 7) (j : Fin 6) (i : Fin 6), i.val < j.val → j.val < n.val → (rows n.val)[plD n.val i.val j.val]? = some (n.val - 1 - j.val, n.val - 1 - i.val) := by decide
theorem row_pl : ∀ (n : Fin 7) (t : Fin 15), t.val < (rows n.val).length → plD n.val (n.val - 1 - ((rows n.val)[t.val]?.getD (0, 0)).2) (n.val - 1 - ((rows n.val)[t.val]?.getD (0, 0)).1) = t.val := by decide
theorem down_bit (L : List Int) (P : List Nat) (ps : List (Nat × Nat)) (t : Nat) : (downTo L P ps).testBit t = true ↔ ∃ x ∈ ps, plD L.length x.1 x.2 = t ∧ bt L (at_ P x.1) (at_ P x.2) = 1 := by
  induction ps using snoc_ind with
  | h0 => simp [downTo]
  | h1 l x ih =>
    rw [downTo_snoc, Nat.testBit_or, Bool.or_eq_true, ih, bit_test _ _ _ (bt_le _ _ _)]
    simp only [Bool.and_eq_true, decide_eq_true_eq, List.mem_append, List.mem_singleton]
    constructor
    · rintro (⟨y, h1, h2⟩ | ⟨h1, h2⟩)
      · exact ⟨y, .inl h1, h2⟩
      · exact ⟨x, .inr rfl, h2.symm, h1⟩
    · rintro ⟨y, (h1 | h1), h2, h3⟩
      · exact .inl ⟨y, h1, h2, h3⟩
      · subst h1; exact .inr ⟨h3, h2.symm⟩
/-- **The code of a whole list is that of the graph with its nodes named from above.** -/
theorem down_code {L : List Int} (hL : IsGraph L) {P R : List Nat} (hP : Names L.length L.length P) (hR : Names L.length L.length R) (h : ∀ i, i < L.length → at_ R (at_ P i) = L.length - 1 - i) : downC L P = codeOf (namedL L R) := by
  have h6 := hL.2.1
  have hl := namedL_length L R
  have hbt : ∀ i j, i < L.length → j < L.length → bt (namedL L R) (L.length - 1 - i) (L.length - 1 - j) = bt L (at_ P i) (at_ P j) := fun i j hi hj => by
    rw [← h i hi, ← h j hj]
    exact named_at hR (at_name hP hi) (at_name hP hj)
  have hN := named_graph hL hR
  unfold downC codeOf
  rw [hP.1, hl]
  refine Nat.eq_of_testBit_eq fun t => ?_
  rw [Bool.eq_iff_iff, down_bit]
  constructor
  · rintro ⟨x, hx, h1, h2⟩
    obtain ⟨x1, x2⟩ := (rows_all _ _ _).1 hx
    have h3 := pl_row ⟨L.length, by omega⟩ ⟨x.2, by omega⟩ ⟨x.1, by omega⟩ x1 x2
    dsimp only at h3
    rw [h1] at h3
    obtain ⟨hk, e⟩ := List.getElem?_eq_some_iff.1 h3
    rw [crun_bit _ _ t hk, e]
    show bt (namedL L R) (L.length - 1 - x.2) (L.length - 1 - x.1) = 1
    rw [hbt _ _ (by omega) (by omega), bt_sym hL (at_name hP (by omega)) (at_name hP (by omega))]
    exact h2
  · intro ht
    by_cases hk : t < (rows L.length).length
    · rw [crun_bit _ _ t hk] at ht
      have h15 := rows_length L.length h6
      have h3 := row_pl ⟨L.length, by omega⟩ ⟨t, by omega⟩ hk
      dsimp only at h3
      rw [List.getElem?_eq_getElem hk] at h3
      simp only [Option.getD_some] at h3
      obtain ⟨x, ex⟩ : ∃ x, x = (rows L.length)[t] := ⟨_, rfl⟩
      have hx : x ∈ rows L.length := by rw [ex]; exact List.getElem_mem _
      obtain ⟨x1, x2⟩ := (rows_all _ _ _).1 hx
      rw [← ex] at ht h3
      refine ⟨(L.length - 1 - x.2, L.length - 1 - x.1), (rows_all _ _ _).2 ⟨by omega, by omega⟩, h3, ?_⟩
      have e := hbt (L.length - 1 - x.2) (L.length - 1 - x.1) (by omega) (by omega)
      rw [show L.length - 1 - (L.length - 1 - x.2) = x.2 by omega, show L.length - 1 - (L.length - 1 - x.1) = x.1 by omega] at e
      show bt L (at_ P (L.length - 1 - x.2)) (at_ P (L.length - 1 - x.1)) = 1
      rw [← e, bt_sym hN (by rw [hl]; omega) (by rw [hl]; omega)]
      exact ht
    · have h1 := crun_lt (namedL L R) (rows L.length)
      have h2 : (crun (namedL L R) (rows L.length)).1 < 2 ^ t := Nat.lt_of_lt_of_le h1 (Nat.pow_le_pow_right (by omega) (by omega))
      rw [Nat.testBit_lt_two_pow h2] at ht
      cases ht

/-! ### the search -/
def bestOf (L : List Int) (acc : List (List Nat)) : Nat := match acc.getLast? with
  | none => codeOf L
  | some P => downC L P
theorem bestOf_nil (L : List Int) : bestOf L [] = codeOf L := rfl
theorem bestOf_snoc (L : List Int) (acc : List (List Nat)) (P : List Nat) : bestOf L (acc ++ [P]) = downC L P := by simp [bestOf]
def fitD (L : List Int) (acc : List (List Nat)) (P : List Nat) : Bool := decide (downC L P < bestOf L acc)
def minD (L : List Int) (b : Nat) (R : List (List Nat)) : Nat := R.foldl (fun b P => min b (downC L P)) b
theorem minD_append (L : List Int) (b : Nat) (R S : List (List Nat)) : minD L b (R ++ S) = minD L (minD L b R) S := by simp [minD]
theorem minD_none (L : List Int) (b : Nat) (R : List (List Nat)) (h : ∀ P ∈ R, b ≤ downC L P) : minD L b R = b := by
  induction R using snoc_ind with
  | h0 => rfl
  | h1 l x ih =>
    rw [minD_append, ih (fun P hP => h P (by simp [hP]))]
    exact Nat.min_eq_left (h x (by simp))
theorem search (L : List Int) (n : Nat) : ∀ (k : Nat) (acc : List (List Nat)) (P : List Nat) (s : Nat), s < 64 → Comp n P s → (k = 0 → downC L P < bestOf L acc) → bestOf L (dfs (fitD L) k acc P s) = minD L (bestOf L acc) (extK n k [P]) := by
  intro k
  induction k with
  | zero =>
    intro acc P s hs hc h
    rw [dfs_zero, bestOf_snoc]
    have := h rfl
    show _ = min (bestOf L acc) (downC L P)
    omega
  | succ k ih =>
    intro acc P s hs hc _
    rw [dfs_succ]
    have e : extK n (k + 1) [P] = (nodesL s).flatMap fun v => extK n k [P ++ [v]] := by
      show extK n k ([P].flatMap (ext n)) = _
      rw [extK_flat]
      unfold ext
      rw [hc]
      simp [List.flatMap_map]
    rw [e]
    have hall : ∀ vs : List Nat, (∀ v ∈ vs, v ∈ nodesL s) → bestOf L (runF (fitD L) k P s acc vs) = minD L (bestOf L acc) (vs.flatMap fun v => extK n k [P ++ [v]]) := by
      intro vs
      induction vs using snoc_ind with
      | h0 => intro _; rfl
      | h1 l v ihl =>
        intro hv
        rw [runF_snoc, List.flatMap_append, minD_append, ← ihl (fun x hx => hv x (by simp [hx]))]
        obtain ⟨a, ea⟩ : ∃ a, a = runF (fitD L) k P s acc l := ⟨_, rfl⟩
        rw [← ea]
        have hvs := hv v (by simp)
        have e1 : (([v] : List Nat).flatMap fun v => extK n k [P ++ [v]]) = extK n k [P ++ [v]] := by simp
        rw [e1]
        unfold stepF
        by_cases hf : fitD L a (P ++ [v]) = true
        · rw [if_pos hf]
          have hlt : downC L (P ++ [v]) < bestOf L a := of_decide_eq_true hf
          exact ih a (P ++ [v]) _ (Nat.lt_of_le_of_lt (less_le _ _) hs) (comp_next hs hc hvs) (fun _ => hlt)
        · rw [if_neg hf]
          have hge : bestOf L a ≤ downC L (P ++ [v]) := Nat.le_of_not_lt fun h => hf (decide_eq_true h)
          exact (minD_none L _ _ fun Q hQ => Nat.le_trans hge (down_le L (extK_take n k _ Q hQ).1)).symm
    exact hall _ (fun v hv => hv)
theorem minD_le (L : List Int) (b : Nat) (R : List (List Nat)) : minD L b R ≤ b ∧ ∀ P ∈ R, minD L b R ≤ downC L P := by
  induction R using snoc_ind with
  | h0 => exact ⟨Nat.le_refl _, fun P hP => by cases hP⟩
  | h1 l x ih =>
    rw [minD_append]
    refine ⟨Nat.le_trans (Nat.min_le_left _ _) ih.1, fun P hP => ?_⟩
    rcases List.mem_append.1 hP with h | h
    · exact Nat.le_trans (Nat.min_le_left _ _) (ih.2 P h)
    · rw [List.mem_singleton.1 h]; exact Nat.min_le_right _ _
theorem minD_ge (L : List Int) (b m : Nat) (R : List (List Nat)) (hb : m ≤ b) (h : ∀ P ∈ R, m ≤ downC L P) : m ≤ minD L b R := by
  induction R using snoc_ind with
  | h0 => exact hb
  | h1 l x ih =>
    rw [minD_append]
    exact Nat.le_min.2 ⟨ih (fun P hP => h P (by simp [hP])), h x (by simp)⟩
/-- **The search finds the least code.** -/
theorem search_least {L : List Int} (hL : IsGraph L) : bestOf L (allNames (fitD L) L.length) = leastL L := by
  have h1 := hL.1
  have h6 := hL.2.1
  have hc : Comp L.length [] (2 ^ L.length - 1) := by
    have := full_comp ⟨L.length, by omega⟩
    unfold Comp left
    rw [List.filter_eq_self.2 (fun a _ => by simp)]
    exact this
  unfold allNames
  have hs := search L L.length L.length [] [] (2 ^ L.length - 1) (by have := two_le h6; have := two_pos L.length; omega) hc (fun h => by omega)
  rw [hs]
  show minD L (codeOf L) (permsTo L.length L.length) = leastL L
  have hidn := perms_names _ _ _ (range_perms L.length L.length (Nat.le_refl _))
  refine Nat.le_antisymm ?_ (minD_ge L _ _ _ ?_ fun P hP => ?_)
  · obtain ⟨R, hR, e⟩ := least_is hL
    have hPn : Names L.length L.length ((List.range L.length).map fun i => invF L.length R (L.length - 1 - i)) :=
      map_range_names (fun v hv => (invF_spec hR (show L.length - 1 - v < L.length by omega)).1) (fun a b ha hb he => by
        have e1 := (invF_spec hR (show L.length - 1 - a < L.length by omega)).2
        have e2 := (invF_spec hR (show L.length - 1 - b < L.length by omega)).2
        rw [he] at e1
        omega)
    have hd := down_code hL hPn hR (fun i hi => by rw [map_range_at _ _ hi]; exact (invF_spec hR (by omega)).2)
    rw [e, ← hd]
    exact (minD_le L _ _).2 _ (perms_all _ _ _ hPn)
  · have := least_le hidn
    rwa [named_id hL] at this
  · have hPn := perms_names _ _ _ hP
    have hRn : Names L.length L.length ((List.range L.length).map fun v => L.length - 1 - invF L.length P v) :=
      map_range_names (fun v hv => by omega) (fun a b ha hb he => by
        have e1 := invF_spec hPn ha
        have e2 := invF_spec hPn hb
        have e3 : invF L.length P a = invF L.length P b := by omega
        rw [← e1.2, ← e2.2, e3])
    have hd := down_code hL hPn hRn (fun i hi => by
      rw [map_range_at _ _ (at_name hPn hi)]
      have e1 := invF_spec hPn (at_name hPn hi)
      have e2 := at_inj hPn e1.1 hi e1.2
      rw [e2])
    rw [hd]
    exact least_le hRn
#print axioms search_least
end Go.Proofs.YtamabhdbcmjbjaaDoor
