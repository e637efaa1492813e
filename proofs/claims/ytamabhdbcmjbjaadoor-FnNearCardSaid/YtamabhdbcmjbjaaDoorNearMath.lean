/- How far names leave a graph from another one; the first names that come nearest, by trying. Plain mathematics, no condition. -/
import Derived.Test.YtamabhdbcmjbjaaDoorBaseG
import Derived.Test.YtamabhdbcmjbjaaDoorBits
namespace Go.Proofs.YtamabhdbcmjbjaaDoor
open Go Go.RowKit
set_option linter.unusedVariables false
set_option maxRecDepth 100000

def unlB (L M : List Int) (P : List Nat) (x : Nat × Nat) : Bool := !(bt L x.1 x.2 == bt M (at_ P x.1) (at_ P x.2))
def unlTo (L M : List Int) (P : List Nat) (ps : List (Nat × Nat)) : Nat := (ps.filter (unlB L M P)).length
theorem unlTo_nil (L M : List Int) (P : List Nat) : unlTo L M P [] = 0 := rfl
theorem unlTo_snoc (L M : List Int) (P : List Nat) (ps : List (Nat × Nat)) (x : Nat × Nat) : unlTo L M P (ps ++ [x]) = unlTo L M P ps + if unlB L M P x = true then 1 else 0 := by
  unfold unlTo
  rw [List.filter_append, List.length_append]
  by_cases h : unlB L M P x = true
  · simp [h]
  · simp [h]
theorem unlTo_le (L M : List Int) (P : List Nat) (ps : List (Nat × Nat)) : unlTo L M P ps ≤ ps.length := List.length_filter_le _ _
def unlike (L M : List Int) (P : List Nat) : Nat := unlTo L M P (rows P.length)
theorem unlike_small (L M : List Int) (P : List Nat) (h : P.length ≤ 6) : unlike L M P ≤ 15 := Nat.le_trans (unlTo_le L M P _) (rows_length _ h)
/-- What begins with a list comes no nearer. -/
theorem unlike_le (L M : List Int) {P Q : List Nat} (h : Q.take P.length = P) : unlike L M P ≤ unlike L M Q := by
  have hl : P.length ≤ Q.length := by
    have := congrArg List.length h
    rw [List.length_take] at this
    omega
  obtain ⟨t, ht⟩ := rows_pre P.length Q.length hl
  unfold unlike
  rw [← ht]
  have e : unlTo L M P (rows P.length) = unlTo L M Q (rows P.length) := by
    unfold unlTo
    congr 1
    refine List.filter_congr fun x hx => ?_
    obtain ⟨h1, h2⟩ := rows_mem _ _ hx
    have e : ∀ v, v < P.length → at_ P v = at_ Q v := fun v hv => by
      have := take_at (P := Q) (i := P.length) hv
      rw [h] at this
      exact this
    unfold unlB
    rw [e _ (by omega), e _ h2]
  rw [e]
  unfold unlTo
  rw [List.filter_append, List.length_append]
  exact Nat.le_add_right _ _

/-! ### by codes -/
/-- The pairs in which two graphs differ, as a graph. -/
def diffL (L M : List Int) : List Int := (List.range L.length).map fun i => ((ent L i ^^^ ent M i : Nat) : Int)
theorem diffL_length (L M : List Int) : (diffL L M).length = L.length := by simp [diffL]
theorem diffL_get (L M : List Int) {i : Nat} (hi : i < L.length) : (diffL L M)[i]?.getD 0 = ((ent L i ^^^ ent M i : Nat) : Int) := by
  unfold diffL
  simp [hi]
theorem xor_tb (a b j : Nat) : (a ^^^ b).testBit j = !(a.testBit j == b.testBit j) := by
  rw [Nat.testBit_xor]
  cases a.testBit j <;> cases b.testBit j <;> rfl
theorem tb_of (L : List Int) (i j : Nat) : (ent L i).testBit j = (bt L i j == 1) := by
  rw [Bool.eq_iff_iff, beq_iff_eq]
  exact (bt_tb L i j).symm
theorem bt_cmp (L M : List Int) (i j a b : Nat) : (!((ent L i).testBit j == (ent M a).testBit b)) = !(bt L i j == bt M a b) := by
  rw [tb_of, tb_of]
  have h1 := bt_le L i j
  have h2 := bt_le M a b
  have h3 : bt L i j = 0 ∨ bt L i j = 1 := by omega
  have h4 : bt M a b = 0 ∨ bt M a b = 1 := by omega
  rcases h3 with h3 | h3 <;> rcases h4 with h4 | h4 <;> rw [h3, h4] <;> rfl
theorem diff_bt (L M : List Int) {i : Nat} (hi : i < L.length) (j : Nat) : bt (diffL L M) i j = 1 ↔ (!(bt L i j == bt M i j)) = true := by
  rw [bt_tb, ← bt_cmp, ← xor_tb]
  show ((((diffL L M)[i]?.getD 0).toNat).testBit j = true) ↔ _
  rw [diffL_get L M hi]
  rfl
theorem diff_graph {L M : List Int} (hL : IsGraph L) (hM : IsGraph M) (hl : L.length = M.length) : IsGraph (diffL L M) := by
  have hd := diffL_length L M
  refine ⟨by rw [hd]; exact hL.1, by rw [hd]; exact hL.2.1, fun v hv => ?_⟩
  rw [hd] at hv
  refine ⟨?_, ?_, fun w hw => ?_⟩
  · unfold InR
    rw [hd, diffL_get L M hv]
    have h1 := ent_lt (hL.2.2 v hv).1
    have h2 := ent_lt (hM.2.2 v (by omega)).1
    rw [← hl] at h2
    have h3 := Nat.xor_lt_two_pow h1 h2
    omega
  · have h1 := bt_le (diffL L M) v v
    have h2 : ¬ bt (diffL L M) v v = 1 := fun q => by
      have h3 := (diff_bt L M hv v).1 q
      rw [(hL.2.2 v hv).2.1, (hM.2.2 v (by omega)).2.1] at h3
      cases h3
    omega
  · refine bt_eq ?_
    rw [diff_bt L M hv, diff_bt L M (by omega), (hL.2.2 v hv).2.2 w hw, (hM.2.2 v (by omega)).2.2 w hw]
/-- The code of the pairs in which two graphs differ. -/
theorem diff_code {L M : List Int} (hl : L.length = M.length) : codeOf (diffL L M) = codeOf L ^^^ codeOf M := by
  have hd := diffL_length L M
  unfold codeOf
  rw [hd, ← hl]
  refine Nat.eq_of_testBit_eq fun k => ?_
  rw [xor_tb]
  by_cases hk : k < (rows L.length).length
  · have hx := rows_mem _ _ (List.getElem_mem hk)
    have h1 := crun_bit (diffL L M) _ k hk
    have h2 := crun_bit L _ k hk
    have h3 := crun_bit M _ k hk
    have b2 : (crun L (rows L.length)).1.testBit k = (bt L ((rows L.length)[k]).1 ((rows L.length)[k]).2 == 1) := by rw [Bool.eq_iff_iff, h2, beq_iff_eq]
    have b3 : (crun M (rows L.length)).1.testBit k = (bt M ((rows L.length)[k]).1 ((rows L.length)[k]).2 == 1) := by rw [Bool.eq_iff_iff, h3, beq_iff_eq]
    rw [b2, b3, ← tb_of, ← tb_of, bt_cmp, Bool.eq_iff_iff, h1, diff_bt L M (by omega)]
  · have z : ∀ N : List Int, (crun N (rows L.length)).1.testBit k = false := fun N =>
      Nat.testBit_lt_two_pow (Nat.lt_of_lt_of_le (crun_lt N (rows L.length)) (Nat.pow_le_pow_right (by omega) (by omega)))
    rw [z, z, z]
    rfl
/-- **The pairs in which names leave two graphs unlike, counted by codes.** -/
theorem unlike_code {L M : List Int} (hL : IsGraph L) (hM : IsGraph M) (hl : L.length = M.length) {P : List Nat} (hP : Names L.length L.length P) : pcf 15 (codeOf (namedL L P) ^^^ codeOf M) = unlike L M P := by
  have h6 := hL.2.1
  have hNl := namedL_length L P
  have hN := named_graph hL hP
  have hI := inv_names hP
  -- the second graph with its names taken back
  obtain ⟨K, eK⟩ : ∃ K, K = namedL M (invP L.length P) := ⟨_, rfl⟩
  have hKl : K.length = L.length := by rw [eK, namedL_length, hl]
  have hK : IsGraph K := by rw [eK]; exact named_graph hM (by rw [← hl]; exact hI)
  have hKb : ∀ a b, a < L.length → b < L.length → bt K a b = bt M (at_ P a) (at_ P b) := fun a b ha hb => by
    have hat : ∀ i, i < L.length → at_ (invP L.length P) (at_ P i) = i := fun i hi => by
      unfold invP
      rw [map_range_at _ _ (at_name hP hi)]
      have h1 := invF_spec hP (at_name hP hi)
      exact at_inj hP h1.1 hi h1.2
    have h1 := named_at (L := M) (P := invP L.length P) (by rw [← hl]; exact hI) (a := at_ P a) (b := at_ P b) (by rw [← hl]; exact at_name hP ha) (by rw [← hl]; exact at_name hP hb)
    rw [hat a ha, hat b hb, ← eK] at h1
    exact h1
  have hD := diff_graph hL hK hKl.symm
  have hDl := diffL_length L K
  have hPd : Names (diffL L K).length (diffL L K).length P := by rw [hDl]; exact hP
  have e1 : namedL (diffL L K) P = diffL (namedL L P) M := by
    refine graph_ext (named_graph hD hPd) (diff_graph hN hM (by rw [hNl]; exact hl)) (by rw [namedL_length, hDl, diffL_length, hNl]) fun i j hi hj => ?_
    rw [namedL_length, hDl] at hi hj
    obtain ⟨a, ha, rfl⟩ := at_surj hP hi
    obtain ⟨b, hb, rfl⟩ := at_surj hP hj
    rw [named_at hPd (by rw [hDl]; exact ha) (by rw [hDl]; exact hb)]
    refine bt_eq ?_
    rw [diff_bt L K ha, diff_bt (namedL L P) M (by rw [hNl]; exact hi), named_at hP ha hb, hKb a b ha hb]
  have e2 : edgesN (diffL (namedL L P) M) = edgesN (diffL L K) := by rw [← e1]; exact edges_named hD hPd
  have e3 : pcf 15 (codeOf (namedL L P) ^^^ codeOf M) = edgesN (diffL (namedL L P) M) := by
    unfold edgesN
    rw [diff_code (by rw [hNl]; exact hl)]
  rw [e3, e2, edges_in (by rw [hDl]; exact h6), hDl]
  unfold unlike unlTo edgesIn
  rw [hP.1]
  congr 1
  refine List.filter_congr fun x hx => ?_
  obtain ⟨h1, h2⟩ := rows_mem _ _ hx
  unfold unlB
  rw [Bool.eq_iff_iff, beq_iff_eq, diff_bt L K (by omega), hKb _ _ (by omega) h2]

/-! ### the search -/
/-- The best names so far: the last ones of a list, at first the nodes in order. -/
def bestN (L : List Int) (acc : List (List Nat)) : List Nat := acc.getLast?.getD (List.range L.length)
theorem bestN_nil (L : List Int) : bestN L [] = List.range L.length := rfl
theorem bestN_snoc (L : List Int) (acc : List (List Nat)) (P : List Nat) : bestN L (acc ++ [P]) = P := by simp [bestN]
def fitN (L M : List Int) (acc : List (List Nat)) (P : List Nat) : Bool := decide (unlike L M P < unlike L M (bestN L acc))
def nearTo (L M : List Int) (b : List Nat) (R : List (List Nat)) : List Nat := R.foldl (fun b P => if unlike L M P < unlike L M b then P else b) b
theorem nearTo_append (L M : List Int) (b : List Nat) (R S : List (List Nat)) : nearTo L M b (R ++ S) = nearTo L M (nearTo L M b R) S := by simp [nearTo]
theorem nearTo_one (L M : List Int) (b P : List Nat) : nearTo L M b [P] = if unlike L M P < unlike L M b then P else b := rfl
theorem nearTo_none (L M : List Int) (b : List Nat) (R : List (List Nat)) (h : ∀ P ∈ R, unlike L M b ≤ unlike L M P) : nearTo L M b R = b := by
  induction R using snoc_ind with
  | h0 => rfl
  | h1 l x ih =>
    rw [nearTo_append, ih (fun P hP => h P (by simp [hP])), nearTo_one, if_neg (Nat.not_lt.2 (h x (by simp)))]
theorem searchN (L M : List Int) (n : Nat) : ∀ (k : Nat) (acc : List (List Nat)) (P : List Nat) (s : Nat), s < 64 → Comp n P s → (k = 0 → unlike L M P < unlike L M (bestN L acc)) → bestN L (dfs (fitN L M) k acc P s) = nearTo L M (bestN L acc) (extK n k [P]) := by
  intro k
  induction k with
  | zero =>
    intro acc P s hs hc h
    rw [dfs_zero, bestN_snoc]
    show _ = nearTo L M (bestN L acc) [P]
    rw [nearTo_one, if_pos (h rfl)]
  | succ k ih =>
    intro acc P s hs hc _
    rw [dfs_succ]
    have e : extK n (k + 1) [P] = (nodesL s).flatMap fun v => extK n k [P ++ [v]] := by
      show extK n k ([P].flatMap (ext n)) = _
      rw [extK_flat]
      unfold ext
      rw [hc]
      simp [List.flatMap_map]
    rw [e]
    have hall : ∀ vs : List Nat, (∀ v ∈ vs, v ∈ nodesL s) → bestN L (runF (fitN L M) k P s acc vs) = nearTo L M (bestN L acc) (vs.flatMap fun v => extK n k [P ++ [v]]) := by
      intro vs
      induction vs using snoc_ind with
      | h0 => intro _; rfl
      | h1 l v ihl =>
        intro hv
        rw [runF_snoc, List.flatMap_append, nearTo_append, ← ihl (fun x hx => hv x (by simp [hx]))]
        obtain ⟨a, ea⟩ : ∃ a, a = runF (fitN L M) k P s acc l := ⟨_, rfl⟩
        rw [← ea]
        have hvs := hv v (by simp)
        have e1 : (([v] : List Nat).flatMap fun v => extK n k [P ++ [v]]) = extK n k [P ++ [v]] := by simp
        rw [e1]
        unfold stepF
        by_cases hf : fitN L M a (P ++ [v]) = true
        · rw [if_pos hf]
          have hlt : unlike L M (P ++ [v]) < unlike L M (bestN L a) := of_decide_eq_true hf
          exact ih a (P ++ [v]) _ (Nat.lt_of_le_of_lt (less_le _ _) hs) (comp_next hs hc hvs) (fun _ => hlt)
        · rw [if_neg hf]
          have hge : unlike L M (bestN L a) ≤ unlike L M (P ++ [v]) := Nat.le_of_not_lt fun h => hf (decide_eq_true h)
          exact (nearTo_none L M _ _ fun Q hQ => Nat.le_trans hge (unlike_le L M (extK_take n k _ Q hQ).1)).symm
    exact hall _ (fun v hv => hv)
/-- The first names that come nearest. -/
def nearN (L M : List Int) : List Nat := nearTo L M (List.range L.length) (permsTo L.length L.length)
/-- **The search finds them.** -/
theorem search_near {L M : List Int} (hL : IsGraph L) : bestN L (allNames (fitN L M) L.length) = nearN L M := by
  have h1 := hL.1
  have h6 := hL.2.1
  have hc : Comp L.length [] (2 ^ L.length - 1) := by
    have := full_comp ⟨L.length, by omega⟩
    unfold Comp left
    rw [List.filter_eq_self.2 (fun a _ => by simp)]
    exact this
  unfold allNames
  exact searchN L M L.length L.length [] [] (2 ^ L.length - 1) (by have := two_le h6; have := two_pos L.length; omega) hc (fun h => by omega)
theorem nearTo_mem (L M : List Int) (b : List Nat) (R : List (List Nat)) : nearTo L M b R = b ∨ nearTo L M b R ∈ R := by
  induction R using snoc_ind with
  | h0 => exact .inl rfl
  | h1 l x ih =>
    rw [nearTo_append, nearTo_one]
    split
    · exact .inr (by simp)
    · rcases ih with h | h
      · exact .inl h
      · exact .inr (by simp [h])
theorem near_names {L M : List Int} : Names L.length L.length (nearN L M) := by
  have hr := range_perms L.length L.length (Nat.le_refl _)
  rcases nearTo_mem L M (List.range L.length) (permsTo L.length L.length) with h | h
  · unfold nearN; rw [h]; exact perms_names _ _ _ hr
  · exact perms_names _ _ _ h
theorem perms_head : ∀ n : Fin 7, (permsTo n.val n.val).head? = some (List.range n.val) := by decide +kernel
end Go.Proofs.YtamabhdbcmjbjaaDoor
