/- Texts in one: Copy, LeastMath, CodeDown, Lesser, ImplLeast. -/
import Derived.Laws.CopyOwn
import Derived.Test.YtogmfbhnnnoipaaDoorBaseA
import Derived.Test.YtogmfbhnnnoipaaDoorBaseB
import Derived.RangeFuncBox

/- A whole list appended to a list of the call's own; a list copied to the front of a list of the call's own. -/


namespace Go.Proofs.YtogmfbhnnnoipaaDoor
open Go.RowKit Go.WideShapes
set_option linter.unusedVariables false

theorem seen_cells {w : World} {A : Option Addr} {ys : List Int} (h : Seen w A ys) (h0 : 0 < ys.length) : ∃ b off, A = some ⟨b, off, none⟩ ∧ ∀ (j : Nat) (u : Value), (ys.map (Value.int .i64))[j]? = some u → w.cell? ((⟨b, off, none⟩ : Addr).add j) = some u := by
  obtain ⟨b, off, hA, _, _⟩ := h 0 h0
  refine ⟨b, off, hA, fun j u hu => ?_⟩
  have hj : j < ys.length := by
    have := (List.getElem?_eq_some_iff.1 hu).1
    simpa using this
  obtain ⟨b', off', hA', _, hc⟩ := h j hj
  rw [hA] at hA'
  cases hA'
  rw [add_plain, hc]
  rw [getD_map ys j hj] at hu
  exact hu

theorem append_list {ops : Array Oper} {rest : List Oper} {o : Oper} {a : Act} {Q : Exit → Act → World → Prop} (hgd : o.guard = none) (s x : Operand)
    (ho : o.op = .call { callee := .builtin .append, args := #[s, x], argTypes := #[22, 22] }) (w : World) (B : Nat) (v : Value) (xs ys : List Int) (A : Option Addr) (c : Nat)
    (hs : a.eval s = v) (hx : a.eval x = .slice A ys.length c) (hr : Row w B v xs) (hy : Seen w A ys) (h0 : 0 < ys.length) (hB : B ≤ w.heap.size) (hlen : xs.length + ys.length ≤ 100000)
    (h : ∀ v' w', Hid (Row w' B v' (xs ++ ys)) → Hid (Below B w w') → wpList Tryd.prog ops Q rest (a.put o.dst v') w') :
    wpList Tryd.prog ops Q (o :: rest) a w := by
  obtain ⟨i0, hi, hz0, hz1, hz2⟩ := info_parts infoInt
  obtain ⟨b, off, rfl, hc⟩ := seen_cells hy h0
  refine wpList_append_own w hgd s x 22 ho B 3 i0 (.int .i64 0) 1 8 Tryd.underlying22 hi hz0 hz1 hz2 rfl (by decide) v xs.length (xs.map (Value.int .i64)) hs hr
    ⟨b, off, none⟩ ys.length c (ys.map (Value.int .i64)) hx (by simp) hc (by simp [Value.oneCell']) (by unfold maxLen; omega) (by omega) hB ?_
  intro v' w' hown hg _
  refine h v' w' ?_ ?_
  · unfold Hid Row
    rw [List.length_append, List.map_append]
    exact hown
  · exact (Below.refl B w).grown hg hB (fun k hk => (hr.lt k hk).1)

theorem copy_front {ops : Array Oper} {rest : List Oper} {o : Oper} {a : Act} {Q : Exit → Act → World → Prop} (hgd : o.guard = none) (d s : Operand)
    (ho : o.op = .call { callee := .builtin .copy, args := #[d, s], argTypes := #[52, 52] }) (w : World) (B g cap : Nat) (xs ys : List Int) (A : Option Addr) (c : Nat)
    (hd : a.eval d = .slice (some ⟨g, 0, none⟩) xs.length cap) (hx : a.eval s = .slice A ys.length c) (hr : Row w B (.slice (some ⟨g, 0, none⟩) xs.length cap) xs) (hy : Seen w A ys) (h0 : 0 < ys.length) (hle : ys.length ≤ xs.length)
    (h : ∀ w', Hid (Row w' B (.slice (some ⟨g, 0, none⟩) xs.length cap) (ys ++ xs.drop ys.length)) → Hid (Below B w w') → wpList Tryd.prog ops Q rest (a.put o.dst (goInt ys.length)) w') :
    wpList Tryd.prog ops Q (o :: rest) a w := by
  obtain ⟨b, off, rfl, hc⟩ := seen_cells hy h0
  have hr0 := hr
  unfold Row at hr0
  rcases hr0.2 with ⟨hv, _⟩ | ⟨g', cap', cur, hv, hBg, hgb, hn, hcm, hcs, htake⟩
  · cases hv
  cases hv
  have hsz : (Tryd.prog.info? 3).map (·.size) = some 1 := by kernel_rfl
  have hcl : cur.toList.length = cap := by rw [Array.length_toList]; omega
  refine wpList_copy_own hgd d s 52 52 ho 3 Tryd.underlying52 hsz g 0 xs.length cap ⟨b, off, none⟩ ys.length c hd hx cur 3 hgb (ys.map (Value.int .i64)) (by rw [List.length_map]; exact (Nat.min_eq_left hle).symm) hc (by rw [List.length_map]; omega) (by simp [Value.oneCell']) ?_
  have e : (ys.map (Value.int .i64)).length = ys.length := by simp
  rw [e]
  refine h _ ?_ (below_setRow (Below.refl B w) hBg _)
  unfold Hid Row
  have hl : (ys ++ xs.drop ys.length).length = xs.length := by simp; omega
  rw [hl]
  refine ⟨by simp; omega, .inr ⟨g, cap, _, rfl, hBg, setRow_heap w g _ _ _ _ hgb, hn, hcm, by simp; omega, ?_⟩⟩
  simp only [List.take_zero, List.nil_append, Nat.zero_add, Nat.mul_one]
  rw [List.map_append, List.map_drop, ← htake, Nat.mul_one, List.take_append, e, List.take_of_length_le (by simp; omega), List.drop_take]
theorem copy_lens {ops : Array Oper} {rest : List Oper} {o : Oper} {a : Act} {Q : Exit → Act → World → Prop} (hgd : o.guard = none) (d s : Operand)
    (ho : o.op = .call { callee := .builtin .copy, args := #[d, s], argTypes := #[52, 52] }) (w : World) (B g cap N K : Nat) (xs ys : List Int) (hN : xs.length = N) (hK : ys.length = K) (A : Option Addr) (c : Nat)
    (hd : a.eval d = .slice (some ⟨g, 0, none⟩) N cap) (hx : a.eval s = .slice A K c) (hr : Row w B (.slice (some ⟨g, 0, none⟩) N cap) xs) (hy : Seen w A ys) (h0 : 0 < K) (hle : K ≤ N)
    (h : ∀ w', Hid (Row w' B (.slice (some ⟨g, 0, none⟩) N cap) (ys ++ xs.drop K)) → Hid (Below B w w') → wpList Tryd.prog ops Q rest (a.put o.dst (goInt K)) w') :
    wpList Tryd.prog ops Q (o :: rest) a w := by
  subst hN
  subst hK
  exact copy_front hgd d s ho w B g cap xs ys A c hd hx hr hy h0 hle h
end Go.Proofs.YtogmfbhnnnoipaaDoor

/- The least code by beginnings: what is not gone on with has no lesser code. Plain mathematics, no condition. -/

namespace Go.Proofs.YtogmfbhnnnoipaaDoor
open Go Go.RowKit
set_option linter.unusedVariables false
set_option maxRecDepth 100000

/-- The place of a pair of a list's places, counted from above. -/
def plD (n i j : Nat) : Nat := (n - 1 - i) * (n - 1 - i - 1) / 2 + (n - 1 - j)
def downTo (L : List Int) (P : List Nat) (ps : List (Nat × Nat)) : Nat := ps.foldl (fun c x => c ||| bt L (at_ P x.1) (at_ P x.2) * 2 ^ plD L.length x.1 x.2) 0
theorem downTo_nil (L : List Int) (P : List Nat) : downTo L P [] = 0 := rfl
theorem downTo_snoc (L : List Int) (P : List Nat) (ps : List (Nat × Nat)) (x : Nat × Nat) : downTo L P (ps ++ [x]) = downTo L P ps ||| bt L (at_ P x.1) (at_ P x.2) * 2 ^ plD L.length x.1 x.2 := by simp [downTo]
def downC (L : List Int) (P : List Nat) : Nat := downTo L P (rows P.length)
theorem downTo_mono (L : List Int) (P : List Nat) (ps qs : List (Nat × Nat)) : downTo L P ps ≤ downTo L P (ps ++ qs) := by
  induction qs using snoc_ind with
  | h0 => rw [List.append_nil]; exact Nat.le_refl _
  | h1 l x ih =>
    rw [← List.append_assoc, downTo_snoc]
    exact Nat.le_trans ih Nat.left_le_or
theorem downTo_congr (L : List Int) {P Q : List Nat} (ps : List (Nat × Nat)) (h : ∀ x ∈ ps, at_ P x.1 = at_ Q x.1 ∧ at_ P x.2 = at_ Q x.2) : downTo L P ps = downTo L Q ps := by
  induction ps using snoc_ind with
  | h0 => rfl
  | h1 l x ih =>
    have hx := h x (by simp)
    rw [downTo_snoc, downTo_snoc, ih (fun y hy => h y (by simp [hy])), hx.1, hx.2]
theorem rows_pref (a : Nat) : ∀ b, a ≤ b → rows a <+: rows b := by
  intro b hb
  obtain ⟨d, rfl⟩ : ∃ d, b = a + d := ⟨b - a, by omega⟩
  clear hb
  induction d with
  | zero => exact List.prefix_refl _
  | succ d ih =>
    refine ih.trans ?_
    unfold rows
    rw [show a + (d + 1) = (a + d) + 1 by omega, List.range_succ, List.flatMap_append]
    exact List.prefix_append _ _
/-- **What begins with a list has no lesser code.** -/
theorem down_le (L : List Int) {P Q : List Nat} (h : Q.take P.length = P) : downC L P ≤ downC L Q := by
  have hl : P.length ≤ Q.length := by
    have := congrArg List.length h
    rw [List.length_take] at this
    omega
  obtain ⟨t, ht⟩ := rows_pref P.length Q.length hl
  unfold downC
  rw [← ht]
  refine Nat.le_trans (Nat.le_of_eq ?_) (downTo_mono L Q (rows P.length) t)
  refine downTo_congr L _ fun x hx => ?_
  obtain ⟨h1, h2⟩ := (rows_all P.length x.1 x.2).1 hx
  have e : ∀ v, v < P.length → at_ P v = at_ Q v := fun v hv => by
    have := take_at (P := Q) (i := P.length) hv
    rw [h] at this
    exact this
  exact ⟨e _ (by omega), e _ h2⟩

theorem pl_row : ∀ (n : Fin 7) (j : Fin 6) (i : Fin 6), i.val < j.val → j.val < n.val → (rows n.val)[plD n.val i.val j.val]? = some (n.val - 1 - j.val, n.val - 1 - i.val) := by decide
theorem row_pl : ∀ (n : Fin 7) (t : Fin 15), t.val < (rows n.val).length → plD n.val (n.val - 1 - ((rows n.val)[t.val]?.getD (0, 0)).2) (n.val - 1 - ((rows n.val)[t.val]?.getD (0, 0)).1) = t.val := by decide
theorem down_bit (L : List Int) (P : List Nat) (ps : List (Nat × Nat)) (t : Nat) : (downTo L P ps).testBit t = true ↔ ∃ x ∈ ps, plD L.length x.1 x.2 = t ∧ bt L (at_ P x.1) (at_ P x.2) = 1 := by
  induction ps using snoc_ind with
  | h0 => simp [downTo]
  | h1 l x ih =>
    rw [downTo_snoc, Nat.testBit_or, Bool.or_eq_true, ih, bit_test _ _ _ (bt_le _ _ _)]
    simp only [Bool.and_eq_true, decide_eq_true_eq, List.mem_append, List.mem_singleton]
    constructor
    · rintro (⟨y, h1, h2⟩ | ⟨h1, h2⟩)
      · exact ⟨y, .inl h1, h2⟩
      · exact ⟨x, .inr rfl, h2.symm, h1⟩
    · rintro ⟨y, (h1 | h1), h2, h3⟩
      · exact .inl ⟨y, h1, h2, h3⟩
      · subst h1; exact .inr ⟨h3, h2.symm⟩
/-- **The code of a whole list is that of the graph with its nodes named from above.** -/
theorem down_code {L : List Int} (hL : IsGraph L) {P R : List Nat} (hP : Names L.length L.length P) (hR : Names L.length L.length R) (h : ∀ i, i < L.length → at_ R (at_ P i) = L.length - 1 - i) : downC L P = codeOf (namedL L R) := by
  have h6 := hL.2.1
  have hl := namedL_length L R
  have hbt : ∀ i j, i < L.length → j < L.length → bt (namedL L R) (L.length - 1 - i) (L.length - 1 - j) = bt L (at_ P i) (at_ P j) := fun i j hi hj => by
    rw [← h i hi, ← h j hj]
    exact named_at hR (at_name hP hi) (at_name hP hj)
  have hN := named_graph hL hR
  unfold downC codeOf
  rw [hP.1, hl]
  refine Nat.eq_of_testBit_eq fun t => ?_
  rw [Bool.eq_iff_iff, down_bit]
  constructor
  · rintro ⟨x, hx, h1, h2⟩
    obtain ⟨x1, x2⟩ := (rows_all _ _ _).1 hx
    have h3 := pl_row ⟨L.length, by omega⟩ ⟨x.2, by omega⟩ ⟨x.1, by omega⟩ x1 x2
    dsimp only at h3
    rw [h1] at h3
    obtain ⟨hk, e⟩ := List.getElem?_eq_some_iff.1 h3
    rw [crun_bit _ _ t hk, e]
    show bt (namedL L R) (L.length - 1 - x.2) (L.length - 1 - x.1) = 1
    rw [hbt _ _ (by omega) (by omega), bt_sym hL (at_name hP (by omega)) (at_name hP (by omega))]
    exact h2
  · intro ht
    by_cases hk : t < (rows L.length).length
    · rw [crun_bit _ _ t hk] at ht
      have h15 := rows_length L.length h6
      have h3 := row_pl ⟨L.length, by omega⟩ ⟨t, by omega⟩ hk
      dsimp only at h3
      rw [List.getElem?_eq_getElem hk] at h3
      simp only [Option.getD_some] at h3
      obtain ⟨x, ex⟩ : ∃ x, x = (rows L.length)[t] := ⟨_, rfl⟩
      have hx : x ∈ rows L.length := by rw [ex]; exact List.getElem_mem _
      obtain ⟨x1, x2⟩ := (rows_all _ _ _).1 hx
      rw [← ex] at ht h3
      refine ⟨(L.length - 1 - x.2, L.length - 1 - x.1), (rows_all _ _ _).2 ⟨by omega, by omega⟩, h3, ?_⟩
      have e := hbt (L.length - 1 - x.2) (L.length - 1 - x.1) (by omega) (by omega)
      rw [show L.length - 1 - (L.length - 1 - x.2) = x.2 by omega, show L.length - 1 - (L.length - 1 - x.1) = x.1 by omega] at e
      show bt L (at_ P (L.length - 1 - x.2)) (at_ P (L.length - 1 - x.1)) = 1
      rw [← e, bt_sym hN (by rw [hl]; omega) (by rw [hl]; omega)]
      exact ht
    · have h1 := crun_lt (namedL L R) (rows L.length)
      have h2 : (crun (namedL L R) (rows L.length)).1 < 2 ^ t := Nat.lt_of_lt_of_le h1 (Nat.pow_le_pow_right (by omega) (by omega))
      rw [Nat.testBit_lt_two_pow h2] at ht
      cases ht

/-! ### the search -/
def bestOf (L : List Int) (acc : List (List Nat)) : Nat := match acc.getLast? with
  | none => codeOf L
  | some P => downC L P
theorem bestOf_nil (L : List Int) : bestOf L [] = codeOf L := rfl
theorem bestOf_snoc (L : List Int) (acc : List (List Nat)) (P : List Nat) : bestOf L (acc ++ [P]) = downC L P := by simp [bestOf]
def fitD (L : List Int) (acc : List (List Nat)) (P : List Nat) : Bool := decide (downC L P < bestOf L acc)
def minD (L : List Int) (b : Nat) (R : List (List Nat)) : Nat := R.foldl (fun b P => min b (downC L P)) b
theorem minD_append (L : List Int) (b : Nat) (R S : List (List Nat)) : minD L b (R ++ S) = minD L (minD L b R) S := by simp [minD]
theorem minD_none (L : List Int) (b : Nat) (R : List (List Nat)) (h : ∀ P ∈ R, b ≤ downC L P) : minD L b R = b := by
  induction R using snoc_ind with
  | h0 => rfl
  | h1 l x ih =>
    rw [minD_append, ih (fun P hP => h P (by simp [hP]))]
    exact Nat.min_eq_left (h x (by simp))
theorem search (L : List Int) (n : Nat) : ∀ (k : Nat) (acc : List (List Nat)) (P : List Nat) (s : Nat), s < 64 → Comp n P s → (k = 0 → downC L P < bestOf L acc) → bestOf L (dfs (fitD L) k acc P s) = minD L (bestOf L acc) (extK n k [P]) := by
  intro k
  induction k with
  | zero =>
    intro acc P s hs hc h
    rw [dfs_zero, bestOf_snoc]
    have := h rfl
    show _ = min (bestOf L acc) (downC L P)
    omega
  | succ k ih =>
    intro acc P s hs hc _
    rw [dfs_succ]
    have e : extK n (k + 1) [P] = (nodesL s).flatMap fun v => extK n k [P ++ [v]] := by
      show extK n k ([P].flatMap (ext n)) = _
      rw [extK_flat]
      unfold ext
      rw [hc]
      simp [List.flatMap_map]
    rw [e]
    have hall : ∀ vs : List Nat, (∀ v ∈ vs, v ∈ nodesL s) → bestOf L (runF (fitD L) k P s acc vs) = minD L (bestOf L acc) (vs.flatMap fun v => extK n k [P ++ [v]]) := by
      intro vs
      induction vs using snoc_ind with
      | h0 => intro _; rfl
      | h1 l v ihl =>
        intro hv
        rw [runF_snoc, List.flatMap_append, minD_append, ← ihl (fun x hx => hv x (by simp [hx]))]
        obtain ⟨a, ea⟩ : ∃ a, a = runF (fitD L) k P s acc l := ⟨_, rfl⟩
        rw [← ea]
        have hvs := hv v (by simp)
        have e1 : (([v] : List Nat).flatMap fun v => extK n k [P ++ [v]]) = extK n k [P ++ [v]] := by simp
        rw [e1]
        unfold stepF
        by_cases hf : fitD L a (P ++ [v]) = true
        · rw [if_pos hf]
          have hlt : downC L (P ++ [v]) < bestOf L a := of_decide_eq_true hf
          exact ih a (P ++ [v]) _ (Nat.lt_of_le_of_lt (less_le _ _) hs) (comp_next hs hc hvs) (fun _ => hlt)
        · rw [if_neg hf]
          have hge : bestOf L a ≤ downC L (P ++ [v]) := Nat.le_of_not_lt fun h => hf (decide_eq_true h)
          exact (minD_none L _ _ fun Q hQ => Nat.le_trans hge (down_le L (extK_take n k _ Q hQ).1)).symm
    exact hall _ (fun v hv => hv)
theorem minD_le (L : List Int) (b : Nat) (R : List (List Nat)) : minD L b R ≤ b ∧ ∀ P ∈ R, minD L b R ≤ downC L P := by
  induction R using snoc_ind with
  | h0 => exact ⟨Nat.le_refl _, fun P hP => by cases hP⟩
  | h1 l x ih =>
    rw [minD_append]
    refine ⟨Nat.le_trans (Nat.min_le_left _ _) ih.1, fun P hP => ?_⟩
    rcases List.mem_append.1 hP with h | h
    · exact Nat.le_trans (Nat.min_le_left _ _) (ih.2 P h)
    · rw [List.mem_singleton.1 h]; exact Nat.min_le_right _ _
theorem minD_ge (L : List Int) (b m : Nat) (R : List (List Nat)) (hb : m ≤ b) (h : ∀ P ∈ R, m ≤ downC L P) : m ≤ minD L b R := by
  induction R using snoc_ind with
  | h0 => exact hb
  | h1 l x ih =>
    rw [minD_append]
    exact Nat.le_min.2 ⟨ih (fun P hP => h P (by simp [hP])), h x (by simp)⟩
/-- **The search finds the least code.** -/
theorem search_least {L : List Int} (hL : IsGraph L) : bestOf L (allNames (fitD L) L.length) = leastL L := by
  have h1 := hL.1
  have h6 := hL.2.1
  have hc : Comp L.length [] (2 ^ L.length - 1) := by
    have := full_comp ⟨L.length, by omega⟩
    unfold Comp left
    rw [List.filter_eq_self.2 (fun a _ => by simp)]
    exact this
  unfold allNames
  have hs := search L L.length L.length [] [] (2 ^ L.length - 1) (by have := two_le h6; have := two_pos L.length; omega) hc (fun h => by omega)
  rw [hs]
  show minD L (codeOf L) (permsTo L.length L.length) = leastL L
  have hidn := perms_names _ _ _ (range_perms L.length L.length (Nat.le_refl _))
  refine Nat.le_antisymm ?_ (minD_ge L _ _ _ ?_ fun P hP => ?_)
  · obtain ⟨R, hR, e⟩ := least_is hL
    have hPn : Names L.length L.length ((List.range L.length).map fun i => invF L.length R (L.length - 1 - i)) :=
      map_range_names (fun v hv => (invF_spec hR (show L.length - 1 - v < L.length by omega)).1) (fun a b ha hb he => by
        have e1 := (invF_spec hR (show L.length - 1 - a < L.length by omega)).2
        have e2 := (invF_spec hR (show L.length - 1 - b < L.length by omega)).2
        rw [he] at e1
        omega)
    have hd := down_code hL hPn hR (fun i hi => by rw [map_range_at _ _ hi]; exact (invF_spec hR (by omega)).2)
    rw [e, ← hd]
    exact (minD_le L _ _).2 _ (perms_all _ _ _ hPn)
  · have := least_le hidn
    rwa [named_id hL] at this
  · have hPn := perms_names _ _ _ hP
    have hRn : Names L.length L.length ((List.range L.length).map fun v => L.length - 1 - invF L.length P v) :=
      map_range_names (fun v hv => by omega) (fun a b ha hb he => by
        have e1 := invF_spec hPn ha
        have e2 := invF_spec hPn hb
        have e3 : invF L.length P a = invF L.length P b := by omega
        rw [← e1.2, ← e2.2, e3])
    have hd := down_code hL hPn hRn (fun i hi => by
      rw [map_range_at _ _ (at_name hPn hi)]
      have e1 := invF_spec hPn (at_name hPn hi)
      have e2 := at_inj hPn e1.1 hi e1.2
      rw [e2])
    rw [hd]
    exact least_le hRn

end Go.Proofs.YtogmfbhnnnoipaaDoor

/- The code of a beginning, counted from above: place and codeDown. -/






namespace Go.Proofs.YtogmfbhnnnoipaaDoor
open Go Go.RowKit Go.Shelf
attribute [local go_sem] Oper.semAt_some
set_option linter.unusedVariables false
set_option maxRecDepth 100000

set_option maxHeartbeats 1000000 in
theorem place_any (a b : Nat) (ha : a ≤ 6) (h1 : 1 ≤ b) (hb : b ≤ 5) (w : World) : Calls Tryd.prog 117 #[.int .i64 a, .int .i64 b] w fun e w' => e = .returned (.int .i64 ((b * (b - 1) / 2 + a : Nat) : Int)) ∧ w = w' := by
  have hc : b = 1 ∨ b = 2 ∨ b = 3 ∨ b = 4 ∨ b = 5 := by omega
  clear h1 hb
  rcases hc with rfl | rfl | rfl | rfl | rfl
  all_goals
    go_enter Tryd.func117, Tryd.ntmps117
    go_wp2
    go_ret
    refine ⟨ret_int ?_, rfl⟩
    try simp
    try (unfold wrap64; omega)

theorem pl_small (n i j : Nat) (h : i < j) (hj : j < n) (h6 : n ≤ 6) : plD n i j ≤ 15 := by
  unfold plD
  have h1 : (n - 1 - i) * (n - 1 - i - 1) ≤ 5 * 4 := Nat.mul_le_mul (by omega) (by omega)
  omega
/-- Between two rounds of codeDown. -/
def DoI (n₀ p q : Nat) (S V : Value) (L : List Int) (P : List Nat) (m : Nat) (pre : List (Pr m)) (W : World) : Prop :=
  Boxed W n₀ 52 S ∧ Boxed W (n₀ + 1) 22 V ∧ Boxed W p 3 (.int .i64 (downTo L P (vals pre) : Nat)) ∧ Boxed W q 3 (.int .i64 ((L.length - 1 : Nat) : Int))
theorem doI_own (n₀ p q : Nat) (S V : Value) (L : List Int) (P : List Nat) (m : Nat) : Own (DoI n₀ p q S V L P m) := fun s X Y row hs hg hr =>
  ⟨boxed_own _ _ (fun _ : Unit => _) () X Y row hs.1 hg hr, boxed_own _ _ (fun _ : Unit => _) () X Y row hs.2.1 hg hr, boxed_own _ _ (fun _ : Unit => _) () X Y row hs.2.2.1 hg hr, boxed_own _ _ (fun _ : Unit => _) () X Y row hs.2.2.2 hg hr⟩
theorem downTo_lt (L : List Int) (P : List Nat) (h6 : L.length ≤ 6) (ps : List (Nat × Nat)) (h : ∀ x ∈ ps, x.1 < x.2 ∧ x.2 < L.length) : downTo L P ps < 65536 := by
  induction ps using snoc_ind with
  | h0 => show 0 < 65536; decide
  | h1 l x ih =>
    rw [downTo_snoc]
    have hx := h x (by simp)
    have h1 := pl_small L.length x.1 x.2 hx.1 hx.2 h6
    have h2 : 2 ^ plD L.length x.1 x.2 ≤ 2 ^ 15 := Nat.pow_le_pow_right (by omega) h1
    have h3 := bt_le L (at_ P x.1) (at_ P x.2)
    have h4 : bt L (at_ P x.1) (at_ P x.2) * 2 ^ plD L.length x.1 x.2 ≤ 1 * 2 ^ 15 := Nat.mul_le_mul h3 h2
    exact Nat.or_lt_two_pow (n := 16) (ih fun y hy => h y (by simp [hy])) (by omega)

set_option maxHeartbeats 4000000 in
theorem codeDown_in (A A' : Option Addr) (c c' : Nat) (L : List Int) (P : List Nat) (hg : IsGraph L) (h1P : 1 ≤ P.length) (hP : P.length ≤ L.length) (hPn : ∀ x ∈ P, x < L.length) (w : World) (h : Seen w A L) (h' : Seen w A' (ints P)) :
    CallsIn Fence.wide 8 Tryd.prog 104 #[.slice A L.length c, .slice A' P.length c'] w (NumA w (downC L P)) := by
  have h1 := hg.1
  have h6 := hg.2.1
  obtain ⟨blk, off, hA0, hbl0, _⟩ := h 0 (by omega)
  obtain ⟨blk', off', hA0', hbl0', _⟩ := h' 0 (by rw [ints_length]; omega)
  obtain ⟨n, hn⟩ : ∃ n, n = L.length := ⟨_, rfl⟩
  obtain ⟨m, hm⟩ : ∃ m, m = P.length := ⟨_, rfl⟩
  rw [← hn] at h1 h6 hP hPn ⊢
  rw [← hm] at h1P hP ⊢
  subst hA0
  subst hA0'
  have HN := Lib.hid hn
  have HM := Lib.hid hm
  have H := Lib.hid h
  have H' := Lib.hid h'
  have HG := Lib.hid hg
  have HPN := Lib.hid hPn
  have hn1 : (n : Int) - 1 = ((n - 1 : Nat) : Int) := by omega
  clear h h' hg hn hm hPn
  refine callsIn_of_wp_marks Tryd.func104 rfl trivial ?_ rfl
  simp only [Tryd.ntmps104, List.size_toArray, List.length_cons, List.length_nil, Nat.reduceAdd, Nat.reduceSub, Array.replicate_succ, Array.replicate_zero, List.push_toArray, List.append_toArray, List.nil_append, List.cons_append]
  gi_wp2
  rename_i K hK
  have hmx : Tryd.prog.follows .mixedOrders = true := by kernel_rfl
  obtain ⟨n₀, en⟩ : ∃ n₀, n₀ = w.heap.size := ⟨_, rfl⟩
  obtain ⟨Z, eZ⟩ : ∃ Z, Z = (w.alloc (.cells #[.slice (some ⟨blk, off, none⟩) n c] 52)).alloc (.cells #[.slice (some ⟨blk', off', none⟩) m c'] 22) := ⟨_, rfl⟩
  have sZ : Z.heap.size = n₀ + 1 + 1 := by rw [eZ, en]; simp
  have x0 : Boxed Z n₀ 52 (.slice (some ⟨blk, off, none⟩) n c) := by rw [eZ, en]; exact (Boxed.new w _ _).alloc _
  have x1 : Boxed Z (n₀ + 1) 22 (.slice (some ⟨blk', off', none⟩) m c') := by
    rw [eZ, en]; have h := Boxed.new (w.alloc (.cells #[.slice (some ⟨blk, off, none⟩) n c] 52)) 22 (.slice (some ⟨blk', off', none⟩) m c'); rw [World.size_alloc] at h; exact h
  have bZ : Below n₀ w Z := by rw [eZ, en]; exact ((Below.refl _ w).alloc (Nat.le_refl _) _).alloc (by simp) _
  rw [← eZ, ← en]
  rw [← en] at hbl0 hbl0'
  have y0 := x0.cell
  have y1 : ∀ o, (Z.alloc o).cell? ⟨n₀, 0, none⟩ = some (.slice (some ⟨blk, off, none⟩) n c) := fun o => (x0.alloc o).cell
  have y2 : ∀ o o', ((Z.alloc o).alloc o').cell? ⟨n₀, 0, none⟩ = some (.slice (some ⟨blk, off, none⟩) n c) := fun o o' => ((x0.alloc o).alloc o').cell
  have y3 : ∀ o o' v, (((Z.alloc o).alloc o').setCell ⟨Z.heap.size, 0, none⟩ v).cell? ⟨n₀, 0, none⟩ = some (.slice (some ⟨blk, off, none⟩) n c) := fun o o' v => (((x0.alloc o).alloc o').other (by omega) _).cell
  have y4 : ∀ o o' v, (((Z.alloc o).alloc o').setCell ⟨Z.heap.size + 1, 0, none⟩ v).cell? ⟨n₀, 0, none⟩ = some (.slice (some ⟨blk, off, none⟩) n c) := fun o o' v => (((x0.alloc o).alloc o').other (by omega) _).cell
  have hw1 : IntKind.i64.wrap ((n - 1 : Nat) : Int) = ((n - 1 : Nat) : Int) := by rw [IntKind.wrap_i64]; omega
  have EN := Lib.hid en
  have SZ := Lib.hid sZ
  have X0 := Lib.hid x0
  have X1 := Lib.hid x1
  have BZ := Lib.hid bZ
  clear eZ en x0 x1 bZ sZ
  have REST : ∀ (p q : Nat) (W : World), p ≠ q → n₀ + 1 < p → n₀ + 1 < q → p < W.heap.size → q < W.heap.size → Boxed W n₀ 52 (.slice (some ⟨blk, off, none⟩) n c) → Boxed W (n₀ + 1) 22 (.slice (some ⟨blk', off', none⟩) m c') → Boxed W p 3 (.int .i64 0) → Boxed W q 3 (.int .i64 ((n - 1 : Nat) : Int)) → Below n₀ w W →
      K { tmps := #[.slice (some ⟨blk, off, none⟩) n c, .slice (some ⟨blk', off', none⟩) m c', .pointer (some ⟨n₀, 0, none⟩), .pointer (some ⟨n₀ + 1, 0, none⟩), .int .i64 0, .pointer (some ⟨p, 0, none⟩), .pointer (some ⟨q, 0, none⟩), undef, undef, .slice (some ⟨blk, off, none⟩) n c, .int .i64 n, .int .i64 ((n - 1 : Nat) : Int), undef, undef, undef, undef, undef, undef, undef, undef, undef, undef, undef, undef, undef, undef, undef, undef, undef, undef, undef, undef, undef, undef, undef, undef, undef, undef], defers := [] } W := by
    intro p q W hpq hp hq hpl hql b0 b1 b2 b3 hB
    clear y0 y1 y2 y3 y4 X0 X1 BZ SZ
    refine hK _ _ ?_
    have v1 := b1.cell
    gi_wp2_with (refine ⟨trivial, ?_⟩; gi_at_call 109; refine (callsIn_wide.2 (pairs_any m _)).mono ?_; rintro e w' ⟨rfl, rfl⟩)
    obtain ⟨nb, enb⟩ : ∃ nb, nb = W.heap.size := ⟨_, rfl⟩
    have c0 := b0.alloc (.cells #[.int .i64 m] 3)
    have c1 := b1.alloc (.cells #[.int .i64 m] 3)
    have c2 := b2.alloc (.cells #[.int .i64 m] 3)
    have c3 := b3.alloc (.cells #[.int .i64 m] 3)
    have c4 := (Boxed.new W 3 (.int .i64 m)).cell
    have cB : Below n₀ w (W.alloc (.cells #[.int .i64 m] 3)) := hB.alloc (by omega) _
    have cS : (W.alloc (.cells #[.int .i64 m] 3)).heap.size = nb + 1 := by rw [enb]; simp
    obtain ⟨U, eU⟩ : ∃ U, U = W.alloc (.cells #[.int .i64 m] 3) := ⟨_, rfl⟩
    rw [← eU] at c0 c1 c2 c3 c4 cB cS ⊢
    rw [← enb] at hpl hql c4 ⊢
    have EU := Lib.hid eU
    have CS := Lib.hid cS
    have hle : n₀ ≤ w.heap.size := by have := EN.out; omega
    have hnbU : nb < U.heap.size := by omega
    clear eU enb b0 b1 b2 b3 hB v1 cS
    refine wpIn_rangeFunc_ownF (α := Pr m) rfl (by omega) (gf := 128) (lb := #[.pointer (some ⟨nb, 0, none⟩)]) rfl trivial (enters_of Tryd.func128 (by kernel_rfl) rfl)
      (pairs_stops Fence.wide _ trivial rfl (by omega) nb m (by omega) U hnbU c4) (fun _ _ => trivial) (fun _ _ _ _ _ _ _ _ => trivial) (Below.refl _ _) (fun _ => rfl)
      (fun pre X => DoI n₀ p q (.slice (some ⟨blk, off, none⟩) n c) (.slice (some ⟨blk', off', none⟩) m c') L P m pre X ∧ Below n₀ w X) (fun _ _ _ => False)
      (OwnFrom.and (Own.from (doI_own _ _ _ _ _ _ _ _) _) (ownFrom_below hle (by omega))) (fun _ _ _ _ _ hs _ _ => hs)
      ⟨⟨c0, c1, c2, by rw [← HN.out]; exact c3⟩, cB⟩
      (fun x => { tmps := #[.slice (some ⟨blk, off, none⟩) n c, .slice (some ⟨blk', off', none⟩) m c', .pointer (some ⟨n₀, 0, none⟩), .pointer (some ⟨n₀ + 1, 0, none⟩), .int .i64 0, .pointer (some ⟨p, 0, none⟩), .pointer (some ⟨q, 0, none⟩), .int .i64 (x.1.1 : Int), .int .i64 (x.1.2 : Int), .slice (some ⟨blk, off, none⟩) n c, .int .i64 n, .int .i64 ((n - 1 : Nat) : Int), .slice (some ⟨blk', off', none⟩) m c', .int .i64 m,
        .func (.func 128) #[] #[.pointer (some ⟨nb, 0, none⟩)], .int .i64 (x.1.1 : Int), .int .i64 (x.1.2 : Int), undef, undef, undef, undef, undef, undef, undef, undef, undef, undef, undef, undef, undef, undef, undef, undef, undef, undef, undef, undef, undef], defers := [] }) ?assign ?body ?done ?stop
    case assign =>
      intro l x X K hK
      gi_wp2
      exact hK
    case body =>
      rintro l pre x Wr ⟨⟨c0, c1, c2, c3⟩, hB⟩ hlen
      obtain ⟨⟨u, v⟩, hu, hv⟩ := x
      dsimp only at hu hv ⊢
      rw [← HN.out] at c3
      have hst := downTo_snoc L P (vals pre) (u, v)
      have hvs := vals_snoc pre (⟨(u, v), hu, hv⟩ : Pr m)
      dsimp only at hvs
      rw [← hvs] at hst
      have hun : u < n := by omega
      have hvn : v < n := by omega
      have hau : at_ P u < n := at_lt HPN.out (by rw [← HM.out]; omega)
      have hav : at_ P v < n := at_lt HPN.out (by rw [← HM.out]; omega)
      have hmem : ∀ y ∈ vals pre, y.1 < y.2 ∧ y.2 < L.length := fun y hy => by
        unfold vals at hy
        obtain ⟨z, _, rfl⟩ := List.mem_map.1 hy
        obtain ⟨z, hz1, hz2⟩ := z
        exact ⟨hz1, by have := HN.out; show z.2 < _; omega⟩
      have hdl := downTo_lt L P (by rw [← HN.out]; exact h6) (vals pre) hmem
      obtain ⟨bk2, of2, hA2, hbl2, hcu⟩ := H'.out u (by rw [ints_length, ← HM.out]; omega)
      have e2 : blk' = bk2 ∧ off' = of2 := by injection hA2 with e; injection e with e1 e2; exact ⟨e1, e2⟩
      obtain ⟨rfl, rfl⟩ := e2
      obtain ⟨bk3, of3, hA3, hbl3, hcv⟩ := H'.out v (by rw [ints_length, ← HM.out]; omega)
      have e3 : blk' = bk3 ∧ off' = of3 := by injection hA3 with e; injection e with e1 e2; exact ⟨e1, e2⟩
      obtain ⟨rfl, rfl⟩ := e3
      rw [ints_at (by rw [← HM.out]; omega)] at hcu hcv
      obtain ⟨bk1, of1, hA1, hbl1, hc1⟩ := H.out (at_ P u) (by rw [← HN.out]; exact hau)
      have e1 : blk = bk1 ∧ off = of1 := by injection hA1 with e; injection e with e1 e2; exact ⟨e1, e2⟩
      obtain ⟨rfl, rfl⟩ := e1
      have hin := (HG.out.2.2 (at_ P u) (by rw [← HN.out]; exact hau)).1
      have hX := ent_int hin
      have hXl := ent_lt hin
      have h64 := two_le (n := L.length) (by rw [← HN.out]; exact h6)
      have hbt : bt L (at_ P u) (at_ P v) = ent L (at_ P u) / 2 ^ at_ P v % 2 := rfl
      rw [hX] at hc1
      have hst' : downTo L P (vals (pre ++ [(⟨(u, v), hu, hv⟩ : Pr m)])) = downTo L P (vals pre) ||| bt L (at_ P u) (at_ P v) * 2 ^ plD n u v := by rw [hst, HN.out]
      rw [hbt] at hst'
      obtain ⟨X, eX⟩ : ∃ X, X = ent L (at_ P u) := ⟨_, rfl⟩
      obtain ⟨a, ea⟩ : ∃ a, a = at_ P u := ⟨_, rfl⟩
      obtain ⟨b, eb⟩ : ∃ b, b = at_ P v := ⟨_, rfl⟩
      obtain ⟨d, ed⟩ : ∃ d, d = downTo L P (vals pre) := ⟨_, rfl⟩
      rw [← eX] at hc1 hXl hst'
      rw [← ea] at hcu hau hc1
      rw [← eb] at hcv hav hst'
      rw [← ed] at hst' hdl c2
      have hXs : X < 1048576 := by omega
      have rU : Wr.cell? ⟨blk', off' + u, none⟩ = some (.int .i64 a) := (hB.cell (p := ⟨blk', off' + u, none⟩) hbl0').trans hcu
      have rV : Wr.cell? ⟨blk', off' + v, none⟩ = some (.int .i64 b) := (hB.cell (p := ⟨blk', off' + v, none⟩) hbl0').trans hcv
      have rX : Wr.cell? ⟨blk, off + a, none⟩ = some (.int .i64 X) := (hB.cell (p := ⟨blk, off + a, none⟩) hbl0).trans hc1
      have C0 := Lib.hid c0
      have C1 := Lib.hid c1
      have C2 := Lib.hid c2
      have C3 := Lib.hid c3
      have HB := Lib.hid hB
      have HST := Lib.hid hst'
      have z0 := c0.cell
      have z1 := c1.cell
      have z2 := c2.cell
      have z3 := c3.cell
      have hiu : (0 : Int) ≤ (u : Int) ∧ (u : Int) < (m : Int) := by omega
      have hiv : (0 : Int) ≤ (v : Int) ∧ (v : Int) < (m : Int) := by omega
      have hb40 : b < 40 := by omega
      have HE := Lib.hid (fun w hc => edge_any blk off n c a b X w hXs hau hb40 hc)
      have hmx2 : Tryd.prog.follows .mixedOrders = true := hmx
      clear c0 c1 c2 c3 hB hst hst' hvs hmem hcu hcv hc1 hA1 hA2 hA3 hbl1 hbl2 hbl3 hin hX hXl h64 hbt eX ea eb ed
      by_cases hbit : X / 2 ^ b % 2 = 1
      · have hbb : (X / 2 ^ b % 2 == 1) = true := by simp [hbit]
        have HBT := Lib.hid hbit
        clear hbit
        rw [hbb] at HE
        obtain ⟨ta, eta⟩ : ∃ ta, ta = n - 1 - v := ⟨_, rfl⟩
        obtain ⟨tb, etb⟩ : ∃ tb, tb = n - 1 - u := ⟨_, rfl⟩
        have f1 : ((n - 1 : Nat) : Int) - (v : Int) = (ta : Int) := by omega
        have f2 : ((n - 1 : Nat) : Int) - (u : Int) = (tb : Int) := by omega
        have f3 : IntKind.i64.wrap (ta : Int) = (ta : Int) := by rw [IntKind.wrap_i64]; omega
        have f4 : IntKind.i64.wrap (tb : Int) = (tb : Int) := by rw [IntKind.wrap_i64]; omega
        have hpl := place_any ta tb (by omega) (by omega) (by omega)
        have hkk : tb * (tb - 1) / 2 + ta = plD n u v := by rw [eta, etb]; rfl
        have hk15 := pl_small n u v hu hvn h6
        rw [hkk] at hpl
        obtain ⟨k, ek⟩ : ∃ k, k = plD n u v := ⟨_, rfl⟩
        rw [← ek] at hpl hk15
        have HPL := Lib.hid hpl
        have wp1 := wrap_pow k (Nat.le_trans hk15 (by decide))
        obtain ⟨t, et⟩ : ∃ t, t = 2 ^ k := ⟨_, rfl⟩
        have ht : t ≤ 2 ^ 15 := by rw [et]; exact Nat.pow_le_pow_right (by decide) hk15
        rw [← et] at wp1
        have wp2 : IntKind.i64.wrap ((2 : Int) ^ k) = (t : Int) := by rw [IntKind.wrap_i64]; unfold wrap64 at wp1; exact wp1
        have wor := i64_or_nat d t (Nat.lt_trans hdl (by decide)) (Nat.lt_of_le_of_lt ht (by decide))
        have EK := Lib.hid ek
        have ET := Lib.hid et
        obtain ⟨w3, ew3⟩ : ∃ w3, w3 = Wr.drew.drew := ⟨_, rfl⟩
        have y2 : w3.cell? ⟨p, 0, none⟩ = some (.int .i64 d) := by rw [ew3]; exact z2
        have y3 : w3.frozen? ⟨p, 0, none⟩ = false := by rw [ew3]; exact C2.out.frozen
        have EW3 := Lib.hid ew3
        clear eta etb hpl hkk ek et ht ew3
        gi_wp2
        refine wpIn_tail_round 9 (by kernel_rfl) (by kernel_rfl) (by kernel_rfl) ?_
        simp only [List.take_succ_cons, List.take_zero, List.drop_succ_cons, List.drop_zero]
        repeat still_step
        refine wpStill_nil ?_
        gi_wp2_with (refine ⟨trivial, ?_⟩; gi_at_call 98; refine (CallsIn.inRound l (callsIn_wide.2 (HE.out Wr.drew rX))).mono ?_; rintro e w' ⟨rfl, rfl⟩)
        refine wpIn_tail_round 10 (by kernel_rfl) (by kernel_rfl) (by kernel_rfl) ?_
        simp only [List.take_succ_cons, List.take_zero, List.drop_succ_cons, List.drop_zero]
        repeat still_step
        still_call ((HPL.out _).mono fun e w' ⟨he, hw⟩ => ⟨he, hw.symm⟩)
        repeat still_step
        refine wpStill_nil ?_
        rw [← EW3.out]
        gi_wp2
        rw [EW3.out]
        have gk := grown_set (grown_drew (grown_drew (World.grownBy.refl Wr (some p)))) 0 (.int .i64 ((d ||| t : Nat) : Int))
        refine ⟨((KeepsOthers.drew _).trans (KeepsOthers.drew _)).trans (KeepsOthers.setCell _ _ _), trivial, ⟨C0.out.kept gk (fun e => by injection e; omega), C1.out.kept gk (fun e => by injection e; omega), ?_, ?_⟩, HB.out.grown gk (by have := HB.out.size; omega) (fun r e => by injection e; omega)⟩
        · rw [HST.out, HBT.out, Nat.one_mul, ← EK.out, ← ET.out]
          exact (show Boxed Wr.drew.drew p 3 (.int .i64 (d : Nat)) from C2.out).set _
        · rw [← HN.out]; exact C3.out.kept gk (fun e => by injection e; omega)
      · have hb0 : X / 2 ^ b % 2 = 0 := by omega
        have hbb : (X / 2 ^ b % 2 == 1) = false := by simp [hb0]
        have HBT := Lib.hid hb0
        clear hbit hb0
        rw [hbb] at HE
        gi_wp2
        refine wpIn_tail_round 9 (by kernel_rfl) (by kernel_rfl) (by kernel_rfl) ?_
        simp only [List.take_succ_cons, List.take_zero, List.drop_succ_cons, List.drop_zero]
        repeat still_step
        refine wpStill_nil ?_
        gi_wp2_with (refine ⟨trivial, ?_⟩; gi_at_call 98; refine (CallsIn.inRound l (callsIn_wide.2 (HE.out Wr.drew rX))).mono ?_; rintro e w' ⟨rfl, rfl⟩)
        refine ⟨KeepsOthers.drew _, trivial, ⟨C0.out, C1.out, ?_, ?_⟩, HB.out.drew⟩
        · rw [HST.out, HBT.out, Nat.zero_mul, Nat.or_zero]; exact C2.out
        · rw [← HN.out]; exact C3.out
    case done =>
      rintro D xs Wr hD hS ⟨⟨c0, c1, c2, c3⟩, hB⟩ hKd
      have z1 := c2.cell
      have HS := Lib.hid hS
      clear hS
      gi_wp2
      refine ⟨by simp, .inl ⟨_, _, rfl, run_takeDeferred hKd, ?_⟩⟩
      refine ⟨_, results_tmp rfl _ _ _, ?_⟩
      refine ⟨?_, ?_⟩
      · unfold downC
        rw [← HM.out, ← HS.out]
        rfl
      · rw [← EN.out]
        exact hB.trans (belowK_b (w := w) hle Wr D _ _ (by have := EN.out; omega) hKd rfl rfl)
    case stop =>
      rintro D cd pre X _ _ h _
      exact h.elim
  have hdz : ∀ a b : Obj, ((Z.alloc a).alloc b).drew.heap.size = Z.heap.size + 1 + 1 := fun a b => by show ((Z.alloc a).alloc b).heap.size = _; simp
  have HDZ := Lib.hid hdz
  clear hdz
  have REST' := Lib.hid REST
  clear REST
  refine wpIn_wide.2 ?_
  go_region
  · exact REST'.out (Z.heap.size) (Z.heap.size + 1) ((Z.alloc (.cells #[.int .i64 0] 3)).alloc (.cells #[.int .i64 ((n - 1 : Nat) : Int)] 3)).drew (by omega) (by rw [SZ.out]; omega) (by rw [SZ.out]; omega) (by rw [HDZ.out]; omega) (by rw [HDZ.out]; omega)
      (X0.out.alloc _ |>.alloc _) (X1.out.alloc _ |>.alloc _) ((Boxed.new Z _ _).alloc _) (by have h := Boxed.new (Z.alloc (.cells #[.int .i64 0] 3)) 3 (.int .i64 ((n - 1 : Nat) : Int)); rw [World.size_alloc] at h; exact h)
      (((BZ.out.alloc (by rw [SZ.out]; omega) _).alloc (by simp [SZ.out]; omega) _).drew)
  · exact REST'.out (Z.heap.size + 1) (Z.heap.size) ((Z.alloc (.cells #[.int .i64 ((n - 1 : Nat) : Int)] 3)).alloc (.cells #[.int .i64 0] 3)).drew (by omega) (by rw [SZ.out]; omega) (by rw [SZ.out]; omega) (by rw [HDZ.out]; omega) (by rw [HDZ.out]; omega)
      (X0.out.alloc _ |>.alloc _) (X1.out.alloc _ |>.alloc _) (by have h := Boxed.new (Z.alloc (.cells #[.int .i64 ((n - 1 : Nat) : Int)] 3)) 3 (.int .i64 0); rw [World.size_alloc] at h; exact h) ((Boxed.new Z _ _).alloc _)
      (((BZ.out.alloc (by rw [SZ.out]; omega) _).alloc (by simp [SZ.out]; omega) _).drew)

end Go.Proofs.YtogmfbhnnnoipaaDoor

/- Whether a beginning may lead to a lesser code: the closure of least. -/


namespace Go.Proofs.YtogmfbhnnnoipaaDoor
open Go Go.RowKit Go.Shelf
set_option linter.unusedVariables false
set_option maxRecDepth 100000

theorem codeDown_row (A : Option Addr) (c : Nat) (L : List Int) (hg : IsGraph L) (B : Nat) (v : Value) (P : List Nat) (h1P : 1 ≤ P.length) (hP : P.length ≤ L.length) (hPn : ∀ x ∈ P, x < L.length) (w : World) (h : Seen w A L) (hr : Row w B v (ints P)) :
    Calls Tryd.prog 104 #[.slice A L.length c, v] w (NumA w (downC L P)) := by
  obtain ⟨A', c', rfl, s'⟩ := hr.seen
  rw [ints_length]
  exact callsIn_wide.1 (codeDown_in A A' c c' L P hg h1P hP hPn w h s')

set_option maxHeartbeats 2000000 in
theorem lesser_any (A : Option Addr) (c s1 s2 m best : Nat) (L : List Int) (hg : IsGraph L) (P : List Nat) (v : Value) (W : World) (hr : Row W m v (ints P)) (h1P : 1 ≤ P.length) (hP : P.length ≤ L.length) (hPn : ∀ x ∈ P, x < L.length)
    (b1 : Boxed W s1 52 (.slice A L.length c)) (b2 : Boxed W s2 3 (.int .i64 (best : Nat))) (hL : Seen W A L) :
    Calls Tryd.prog 103 (#[v] ++ #[.pointer (some ⟨s1, 0, none⟩), .pointer (some ⟨s2, 0, none⟩)]) W fun e W' => e = .returned (.bool (decide (downC L P < best))) ∧ Below W.heap.size W W' := by
  show Calls Tryd.prog 103 #[v, .pointer (some ⟨s1, 0, none⟩), .pointer (some ⟨s2, 0, none⟩)] W _
  have HC := Lib.hid (codeDown_row A c L hg m v P h1P hP hPn W.drew hL hr)
  have z1 := b1.cell
  have z2 := b2.cell
  have B2 := Lib.hid b2
  obtain ⟨x, ex⟩ : ∃ x, x = downC L P := ⟨_, rfl⟩
  rw [← ex] at HC ⊢
  obtain ⟨n, hn⟩ : ∃ n, n = L.length := ⟨_, rfl⟩
  rw [← hn] at HC z1
  clear hg hr h1P hP hPn b1 b2 hL ex hn
  go_enter Tryd.func103, Tryd.ntmps103
  go_wp2
  go_region_with (go_at_call 104; refine HC.out.mono ?_; rintro e w1 ⟨rfl, hb1⟩; have z3 : w1.cell? ⟨s2, 0, none⟩ = some (.int .i64 (best : Nat)) := (hb1.cell (p := ⟨s2, 0, none⟩) B2.out.lt).trans z2)
  all_goals go_wp2
  all_goals go_ret
  all_goals exact ⟨by first | rfl | simp, ((Below.refl W.heap.size W).drew).trans (show Below W.heap.size W.drew w1 from hb1)⟩
end Go.Proofs.YtogmfbhnnnoipaaDoor

/- The program's least code, by a search over the names. -/





namespace Go.Proofs.YtogmfbhnnnoipaaDoor
open Go Go.RowKit Go.Shelf
attribute [local go_sem] Oper.semAt_some
set_option linter.unusedVariables false
set_option maxRecDepth 100000

def LeI (n s0 p : Nat) (A : Option Addr) (c : Nat) (L : List Int) (w : World) (acc : List (List Nat)) (Z : World) : Prop :=
  Boxed Z s0 52 (.slice A n c) ∧ Boxed Z p 3 (.int .i64 (bestOf L acc : Nat)) ∧ Boxed Z (p + 1 + 1) 31 (.func (.func 103) #[] #[.pointer (some ⟨s0, 0, none⟩), .pointer (some ⟨p, 0, none⟩)]) ∧ Below s0 w Z

set_option maxHeartbeats 4000000 in
theorem implLeast_big (A : Option Addr) (c : Nat) (L : List Int) (hL : IsGraph L) (w : World) (sL : Seen w A L) (hT : Tab w) :
    CallsIn Fence.wide 12 Tryd.prog 73 #[.slice A L.length c] w (fun e w' => NumA w (leastL L) e w' ∧ w.heap.size + 4 ≤ w'.heap.size) := by
  have h1 := hL.1
  have h6 := hL.2.1
  have h2 := hT.lt
  have hsl := search_least hL
  obtain ⟨s0, es0⟩ : ∃ s0, s0 = w.heap.size := ⟨_, rfl⟩
  have g0 : Boxed (w.alloc (.cells #[.slice A L.length c] 52)) s0 52 (.slice A L.length c) := by rw [es0]; exact Boxed.new w _ _
  have gB : Below s0 w (w.alloc (.cells #[.slice A L.length c] 52)) := by rw [es0]; exact (Below.refl _ w).alloc (Nat.le_refl _) _
  have HC0 := Lib.hid (callsIn_wide.1 (implCode_in A c L hL (w.alloc (.cells #[.slice A L.length c] 52)) (sL.below (by rw [← es0]; exact gB))))
  obtain ⟨x0, ex0⟩ : ∃ x0, x0 = codeOf L := ⟨_, rfl⟩
  rw [← ex0] at HC0
  have EX0 := Lib.hid ex0
  obtain ⟨n, hn⟩ : ∃ n, n = L.length := ⟨_, rfl⟩
  rw [← hn] at h1 h6 hsl g0 gB HC0 ⊢
  have HL := Lib.hid hL
  have HN := Lib.hid hn
  have SL := Lib.hid sL
  have HT := Lib.hid hT
  have HSL := Lib.hid hsl
  have G0 := Lib.hid g0
  have GB := Lib.hid gB
  have y0 := g0.cell
  rw [es0] at y0
  clear hL hn sL hT hsl ex0 g0 gB
  refine callsIn_of_wp_marks Tryd.func73 rfl trivial ?_ rfl
  simp only [Tryd.ntmps73, List.size_toArray, List.length_cons, List.length_nil, Nat.reduceAdd, Nat.reduceSub, Array.replicate_succ, Array.replicate_zero, List.push_toArray, List.append_toArray, List.nil_append, List.cons_append]
  have hmf : ∀ (fn : Fn) (first cap : Array Value) (w : World), (Instr.makeFunc fn first cap).run Tryd.prog w = .ok (.func fn first cap) w := fun _ _ _ _ => rfl
  gi_wp2_with (first
    | (refine ⟨trivial, ?_⟩; gi_at_call 102; refine (callsIn_wide.2 HC0.out).mono ?_; rintro e w1 ⟨rfl, hb1⟩
       have g1 : Boxed w1 s0 52 (.slice A n c) := (hb1.block s0 G0.out.lt).trans G0.out
       have k1 : w1.cell? ⟨w.heap.size, 0, none⟩ = some (.slice A n c) := by rw [← es0]; exact g1.cell
       have k2 : ∀ o, (w1.alloc o).cell? ⟨w.heap.size, 0, none⟩ = some (.slice A n c) := fun o => by rw [← es0]; exact (g1.alloc o).cell
       have G1 := Lib.hid g1
       have GB1 := Lib.hid (GB.out.trans (hb1.mono (by have := G0.out.lt; omega))))
    | (refine ⟨trivial, ?_⟩; gi_at_call 105; refine (callsIn_wide.2 (namings_any _ _ _ _)).mono ?_; rintro e w' ⟨rfl, rfl⟩))
  obtain ⟨p, ep⟩ : ∃ p, p = w1.heap.size := ⟨_, rfl⟩
  rw [← es0, ← ep]
  have hp : s0 < p := by rw [ep]; exact G1.out.lt
  obtain ⟨W, eW⟩ : ∃ W, W = ((w1.alloc (.cells #[.int .i64 (x0 : Nat)] 3)).alloc (.cells #[.int .i64 n] 3)).alloc (.cells #[(.func (.func 103) #[] #[.pointer (some ⟨s0, 0, none⟩), .pointer (some ⟨p, 0, none⟩)])] 31) := ⟨_, rfl⟩
  have sW : W.heap.size = p + 3 := by rw [eW, ep]; simp
  have hBW : Below s0 w W := by
    rw [eW]
    refine Below.alloc (Below.alloc (Below.alloc GB1.out ?_ _) ?_ _) ?_ _ <;> (first | omega | (simp <;> omega))
  have b0 : Boxed W s0 52 (.slice A n c) := by rw [eW]; exact ((G1.out.alloc _).alloc _).alloc _
  have b1 : Boxed W p 3 (.int .i64 (bestOf L [] : Nat)) := by
    rw [eW, ep, bestOf_nil, ← EX0.out]; exact ((Boxed.new w1 _ _).alloc _).alloc _
  have b2 : Boxed W (p + 1) 3 (.int .i64 n) := by
    rw [eW, ep]; have h := Boxed.new (w1.alloc (.cells #[.int .i64 (x0 : Nat)] 3)) 3 (.int .i64 n); rw [World.size_alloc] at h; exact h.alloc _
  have b3 : Boxed W (p + 1 + 1) 31 (.func (.func 103) #[] #[.pointer (some ⟨s0, 0, none⟩), .pointer (some ⟨p, 0, none⟩)]) := by
    rw [eW, ep]; have h := Boxed.new ((w1.alloc (.cells #[.int .i64 (x0 : Nat)] 3)).alloc (.cells #[.int .i64 n] 3)) 31 (.func (.func 103) #[] #[.pointer (some ⟨s0, 0, none⟩), .pointer (some ⟨w1.heap.size, 0, none⟩)]); rw [World.size_alloc, World.size_alloc] at h; exact h
  rw [← eW]
  have ES := Lib.hid es0
  have SW := Lib.hid sW
  have hle : s0 ≤ w.heap.size := by omega
  have h2s : 2 ≤ s0 := by omega
  clear eW es0 sW h2 ep g1 k1 k2 hb1 y0 G0 GB HC0
  refine wpIn_names (n := n) (nb := p + 1) (fx := p + 1 + 1) (fid := 103) (fcap := #[.pointer (some ⟨s0, 0, none⟩), .pointer (some ⟨p, 0, none⟩)]) (fit := fitD L)
    h1 h6 (by have := SW.out; omega) rfl (by have := SW.out; omega) b2.cell b2.lt rfl (LeI n s0 p A c L w) (fun _ _ _ => False) ?far ?farx (fun s X h => h.2.2.1) (fun s X h => HT.out.below h.2.2.2 (by omega)) (enters_of Tryd.func103 (by kernel_rfl) rfl)
    ?asks ⟨b0, b1, b3, hBW⟩
    (fun v => { tmps := #[.slice A n c, .pointer (some ⟨s0, 0, none⟩), .int .i64 0, .pointer (some ⟨p, 0, none⟩), .func (.func 103) #[] #[.pointer (some ⟨s0, 0, none⟩), .pointer (some ⟨p, 0, none⟩)], v, .slice A n c, .int .i64 (x0 : Nat),
      .func (.func 103) #[] #[.pointer (some ⟨s0, 0, none⟩), .pointer (some ⟨p, 0, none⟩)], .slice A n c, .int .i64 n, .func (.func 103) #[] #[.pointer (some ⟨s0, 0, none⟩), .pointer (some ⟨p, 0, none⟩)],
      .func (.func 125) #[] #[.pointer (some ⟨p + 1, 0, none⟩), .pointer (some ⟨p + 1 + 1, 0, none⟩)], v, undef, undef, undef, undef], defers := [] }) ?assign ?body ?done ?stop
  case far =>
    rintro acc X Y ⟨q0, q1, q2, q3⟩ hb
    have hs := SW.out
    exact ⟨(hb.block _ (by omega)).trans q0, (hb.block _ (by omega)).trans q1, (hb.block _ (by omega)).trans q2, q3.trans (hb.mono (by omega))⟩
  case farx =>
    rintro cd xs X Y row h hg hr
    exact h
  case asks =>
    rintro acc P v Z ⟨q0, q1, q2, q3⟩ hr p1 p2 p3
    rw [HN.out] at q0 p2 p3
    exact (lesser_any A c s0 p W.heap.size (bestOf L acc) L HL.out P v Z hr p1 p2 p3 q0 q1 (SL.out.below (by rw [← ES.out]; exact q3))).mono fun e w' ⟨he, hb⟩ => ⟨he, hb.mono (by have := q2.lt; have := SW.out; omega)⟩
  case assign =>
    intro l v Z K hK
    gi_wp2
    exact hK
  case body =>
    rintro l acc P v Z ⟨q0, q1, q2, q3⟩ hr p1 p2
    have hs := SW.out
    have hZ := q3.size
    have hZW : W.heap.size ≤ Z.heap.size := by have := q2.lt; omega
    have hcd := codeDown_row A c L HL.out W.heap.size v P (by omega) (by rw [← HN.out]; omega) (by rw [← HN.out]; exact p2) Z (SL.out.below (by rw [← ES.out]; exact q3)) hr
    rw [← HN.out] at hcd
    obtain ⟨x, ex⟩ : ∃ x, x = downC L P := ⟨_, rfl⟩
    rw [← ex] at hcd
    have EX := Lib.hid ex
    have HCD := Lib.hid hcd
    have y0 := q0.cell
    have Q0 := Lib.hid q0
    have Q1 := Lib.hid q1
    have Q2 := Lib.hid q2
    have Q3 := Lib.hid q3
    clear hcd ex q0 q1 q2 q3 hr p1 p2 b0 b1 b2 b3 hBW
    gi_wp2_with (refine ⟨trivial, ?_⟩; gi_at_call 104; refine (CallsIn.inRound l (callsIn_wide.2 HCD.out)).mono ?_; rintro e Z1 ⟨rfl, hb⟩
                 have r1 : Boxed Z1 p 3 (.int .i64 (bestOf L acc : Nat)) := (hb.block p Q1.out.lt).trans Q1.out
                 have y1 := r1.cell
                 have y2 := r1.frozen
                 have R1 := Lib.hid r1
                 have HB := Lib.hid hb
                 clear r1 hb)
    have g2 := grownBy_setCell' Z1 p (.int .i64 (x : Nat))
    have hB2 : Below 2 Z (Z1.setCell ⟨p, 0, none⟩ (.int .i64 (x : Nat))) := (HB.out.mono (by omega)).setCell (p := ⟨p, 0, none⟩) (by show 2 ≤ p; omega) _
    refine ⟨?_, ?_, hB2, ?_⟩
    · exact (KeepsFrom.mk (HB.out.size) (fun k o _ h4 _ => (HB.out.block k (Array.getElem?_eq_some_iff.1 h4).1).trans h4)).trans ((KeepsOthers.setCell _ _ _).from _)
    · refine ⟨Nat.le_trans HB.out.size g2.size, fun k o hk h4 => ?_⟩
      have h5 := (HB.out.block k (Array.getElem?_eq_some_iff.1 h4).1).trans h4
      exact (g2.block k (Array.getElem?_eq_some_iff.1 h5).1 (fun e => by injection e; omega)).trans h5
    · refine ⟨(show Boxed Z1 s0 52 (.slice A n c) from (HB.out.block _ Q0.out.lt).trans Q0.out).kept g2 (fun e => by injection e; omega), ?_, (show Boxed Z1 (p + 1 + 1) 31 (.func (.func 103) #[] #[.pointer (some ⟨s0, 0, none⟩), .pointer (some ⟨p, 0, none⟩)]) from (HB.out.block _ Q2.out.lt).trans Q2.out).kept g2 (fun e => by injection e; omega), (Q3.out.trans (HB.out.mono (by omega))).setCell (p := ⟨p, 0, none⟩) (by show s0 ≤ p; omega) _⟩
      rw [bestOf_snoc, ← EX.out]
      exact R1.out.set _
  case done =>
    rintro D Z hD ⟨q0, q1, q2, q3⟩ hK
    rw [HSL.out] at q1
    have y1 := q1.cell
    have hs := SW.out
    have gD := grownBy_putObj' Z D (.deferred none)
    have hB : Below s0 w (Z.putObj D (.deferred none)) := q3.grown gD (by have := q3.size; omega) (fun r e => by cases e; omega)
    have HB := Lib.hid hB
    have KK := Lib.hid hK
    have hbig : w.heap.size + 4 ≤ (Z.putObj D (.deferred none)).heap.size := by
      have hk1 := (Array.getElem?_eq_some_iff.1 hK).1
      have hk2 := gD.size
      have hk3 := ES.out
      omega
    have HBIG := Lib.hid hbig
    clear hbig
    obtain ⟨x, ex⟩ : ∃ x, x = leastL L := ⟨_, rfl⟩
    rw [← ex] at y1
    have EX := Lib.hid ex
    clear ex q0 q1 q2 q3 hK hB gD hs b0 b1 b2 b3 hBW
    gi_wp2
    refine ⟨by simp, .inl ⟨_, _, rfl, run_takeDeferred KK.out, ?_⟩⟩
    refine ⟨_, results_tmp rfl _ _ _, ?_⟩
    exact ⟨⟨by rw [← EX.out]; rfl, by rw [← ES.out]; exact HB.out⟩, HBIG.out⟩
  case stop =>
    rintro D xs Z hD _ h hK
    exact h.elim
theorem implLeast_in (A : Option Addr) (c : Nat) (L : List Int) (hL : IsGraph L) (w : World) (sL : Seen w A L) (hT : Tab w) :
    CallsIn Fence.wide 12 Tryd.prog 73 #[.slice A L.length c] w (NumA w (leastL L)) := (implLeast_big A c L hL w sL hT).mono fun _ _ h => h.1
end Go.Proofs.YtogmfbhnnnoipaaDoor
