/- When names make one graph another one: by codes, and by trying. Plain mathematics, no condition. -/
import Derived.Test.YtcblcifnpgmibaaDoorPermsMath
import Derived.Test.YtcblcifnpgmibaaDoorBaseA
import Derived.StillTailTactics
namespace Go.Proofs.YtcblcifnpgmibaaDoor
open Go Go.RowKit
set_option linter.unusedVariables false
set_option maxRecDepth 100000

/-- The graph with its nodes named. -/
def namedL (L : List Int) (P : List Nat) : List Int := ints (mrun L L.length (nm (ints P)) (grid L.length L.length))
theorem nm_ints (P : List Nat) (v : Nat) : nm (ints P) v = at_ P v := by
  unfold nm at_
  rw [ints_get]
  rfl
theorem names_is {n : Nat} {P : List Nat} (h : Names n n P) : IsNames (ints P) n := by
  have hnat : natOf (ints P) = P := by
    unfold natOf ints
    rw [List.map_map]
    exact (List.map_congr_left (fun x _ => by simp)).trans (List.map_id P)
  refine ⟨by rw [ints_length]; exact h.1, fun k hk => ?_, by rw [hnat]; exact h.2.1⟩
  rw [ints_length] at hk
  unfold InN
  rw [ints_at hk]
  have := at_lt h.2.2 hk
  omega
theorem at_inj {n : Nat} {P : List Nat} (h : Names n n P) {a b : Nat} (ha : a < n) (hb : b < n) (e : at_ P a = at_ P b) : a = b := by
  refine Classical.byContradiction fun hne => ?_
  have := nm_ne (names_is h) ha hb hne
  rw [nm_ints, nm_ints] at this
  exact this e
theorem at_surj {n : Nat} {P : List Nat} (h : Names n n P) {j : Nat} (hj : j < n) : ∃ a, a < n ∧ at_ P a = j := by
  have h1 : seenOf P = 2 ^ n - 1 := (names_iff P n h.1 h.2.2).2 h.2.1
  have h2 := (seenOf_full P n h.2.2).1 h1 j hj
  obtain ⟨a, ha, e⟩ := List.mem_iff_getElem.1 h2
  refine ⟨a, by rw [← h.1]; exact ha, ?_⟩
  unfold at_
  rw [List.getElem?_eq_getElem ha]
  exact e
theorem bt_ints (g : List Nat) (i j : Nat) : bt (ints g) i j = 1 ↔ (g[i]?.getD 0).testBit j = true := by
  unfold bt ent
  rw [ints_get, Int.toNat_natCast, Nat.testBit_eq_decide_div_mod_eq, decide_eq_true_eq]
theorem named_bt {L : List Int} {P : List Nat} (h : Names L.length L.length P) (i j : Nat) : bt (namedL L P) i j = 1 ↔ ∃ a b, a < L.length ∧ b < L.length ∧ bt L a b = 1 ∧ i = at_ P a ∧ j = at_ P b := by
  unfold namedL
  rw [bt_ints, mrun_bit L L.length (nm (ints P)) (fun v hv => (nm_int (names_is h) hv).2) _ (fun e he => by obtain ⟨a, b⟩ := e; exact ((grid_all _ _ _).1 he).1)]
  constructor
  · rintro ⟨⟨a, b⟩, he, h1, h2, h3⟩
    obtain ⟨ha, hb⟩ := (grid_all _ _ _).1 he
    exact ⟨a, b, ha, hb, h1, by rw [← nm_ints]; exact h2, by rw [← nm_ints]; exact h3⟩
  · rintro ⟨a, b, ha, hb, h1, h2, h3⟩
    exact ⟨(a, b), (grid_all _ _ _).2 ⟨ha, hb⟩, h1, by rw [nm_ints]; exact h2, by rw [nm_ints]; exact h3⟩
theorem bt_eq {L M : List Int} {a b c d : Nat} (h : bt L a b = 1 ↔ bt M c d = 1) : bt L a b = bt M c d := by
  have h1 := bt_le L a b
  have h2 := bt_le M c d
  by_cases h3 : bt L a b = 1
  · rw [h3, h.1 h3]
  · have h4 : ¬ bt M c d = 1 := fun e => h3 (h.2 e)
    omega
theorem named_at {L : List Int} {P : List Nat} (h : Names L.length L.length P) {a b : Nat} (ha : a < L.length) (hb : b < L.length) : bt (namedL L P) (at_ P a) (at_ P b) = bt L a b := by
  refine bt_eq ?_
  rw [named_bt h]
  constructor
  · rintro ⟨c, d, hc, hd, h1, h2, h3⟩
    rw [at_inj h ha hc h2, at_inj h hb hd h3]
    exact h1
  · intro h1
    exact ⟨a, b, ha, hb, h1, rfl, rfl⟩
theorem bt_sym {L : List Int} (hg : IsGraph L) {a b : Nat} (ha : a < L.length) (hb : b < L.length) : bt L a b = bt L b a := by
  rcases Nat.lt_trichotomy a b with h | h | h
  · exact ((hg.2.2 b hb).2.2 a h).symm
  · rw [h]
  · exact (hg.2.2 a ha).2.2 b h
theorem namedL_length (L : List Int) (P : List Nat) : (namedL L P).length = L.length := by unfold namedL; rw [ints_length, mrun_length]
theorem named_graph {L : List Int} (hg : IsGraph L) {P : List Nat} (h : Names L.length L.length P) : IsGraph (namedL L P) := by
  have hl := namedL_length L P
  refine ⟨by rw [hl]; exact hg.1, by rw [hl]; exact hg.2.1, fun v hv => ?_⟩
  rw [hl] at hv
  refine ⟨?_, ?_, fun w hw => ?_⟩
  · unfold InR
    rw [hl]
    unfold namedL
    rw [ints_get]
    refine ⟨by omega, ?_⟩
    have h1 : (mrun L L.length (nm (ints P)) (grid L.length L.length))[v]?.getD 0 < 2 ^ L.length := by
      refine Nat.lt_pow_two_of_testBit _ fun j hj => ?_
      cases e : ((mrun L L.length (nm (ints P)) (grid L.length L.length))[v]?.getD 0).testBit j with
      | false => rfl
      | true =>
        have h2 := (named_bt h v j).1 ((bt_ints _ _ _).2 e)
        obtain ⟨a, b, ha, hb, _, _, h3⟩ := h2
        have := at_lt h.2.2 (show b < P.length by rw [h.1]; exact hb)
        omega
    omega
  · have h1 := bt_le (namedL L P) v v
    refine Nat.le_antisymm ?_ (Nat.zero_le _)
    refine Nat.le_of_not_lt fun h2 => ?_
    have h3 : bt (namedL L P) v v = 1 := by omega
    obtain ⟨a, b, ha, hb, h4, h5, h6⟩ := (named_bt h v v).1 h3
    have h7 := at_inj h ha hb (h5.symm.trans h6)
    subst h7
    have := (hg.2.2 a ha).2.1
    omega
  · refine bt_eq ?_
    rw [named_bt h, named_bt h]
    constructor
    · rintro ⟨a, b, ha, hb, h1, h2, h3⟩
      exact ⟨b, a, hb, ha, (bt_sym hg hb ha).trans h1, h3, h2⟩
    · rintro ⟨a, b, ha, hb, h1, h2, h3⟩
      exact ⟨b, a, hb, ha, (bt_sym hg hb ha).trans h1, h3, h2⟩

/-! ### codes -/
theorem crun_bit (L : List Int) (ps : List (Nat × Nat)) (k : Nat) (hk : k < ps.length) : (crun L ps).1.testBit k = true ↔ bt L (ps[k]).1 (ps[k]).2 = 1 := by
  induction ps using snoc_ind with
  | h0 => simp at hk
  | h1 l x ih =>
    rw [crun_snoc]
    unfold cstep
    dsimp only
    rw [Nat.testBit_or, crun_at, Bool.or_eq_true, bit_test _ _ _ (bt_le _ _ _)]
    simp only [Bool.and_eq_true, decide_eq_true_eq]
    rw [List.length_append, List.length_singleton] at hk
    by_cases h : k < l.length
    · rw [List.getElem_append_left h, ih h]
      constructor
      · rintro (h1 | ⟨_, h1⟩)
        · exact h1
        · omega
      · exact .inl
    · have hkl : k = l.length := by omega
      subst hkl
      rw [List.getElem_append_right (Nat.le_refl _)]
      have h1 := crun_lt L l
      have h2 : (crun L l).1.testBit l.length = false := Nat.testBit_lt_two_pow h1
      rw [h2]
      simp
theorem graph_ext {A B : List Int} (hA : IsGraph A) (hB : IsGraph B) (hl : A.length = B.length) (h : ∀ i j, i < A.length → j < A.length → bt A i j = bt B i j) : A = B := by
  refine List.ext_getElem hl fun i h1 h2 => ?_
  have a1 := (hA.2.2 i h1).1
  have b1 := (hB.2.2 i h2).1
  have e : ent A i = ent B i := by
    refine Nat.eq_of_testBit_eq fun j => ?_
    by_cases hj : j < A.length
    · have h3 := h i j h1 hj
      unfold bt at h3
      rw [Nat.testBit_eq_decide_div_mod_eq, Nat.testBit_eq_decide_div_mod_eq, h3]
    · have h4 := ent_lt a1
      have h5 := ent_lt b1
      rw [← hl] at h5
      rw [Nat.testBit_lt_two_pow (Nat.lt_of_lt_of_le h4 (pow_le _ _ (by omega))), Nat.testBit_lt_two_pow (Nat.lt_of_lt_of_le h5 (pow_le _ _ (by omega)))]
  have h6 := ent_int a1
  have h7 := ent_int b1
  rw [List.getElem?_eq_getElem h1] at h6
  rw [List.getElem?_eq_getElem h2] at h7
  simp only [Option.getD_some] at h6 h7
  rw [h6, h7, e]
theorem code_inj {A B : List Int} (hA : IsGraph A) (hB : IsGraph B) (hl : A.length = B.length) (h : codeOf A = codeOf B) : A = B := by
  have hp : ∀ a b, a < b → b < A.length → bt A a b = bt B a b := fun a b hab hb => by
    obtain ⟨k, hk, e⟩ := List.mem_iff_getElem.1 ((rows_all A.length a b).2 ⟨hab, hb⟩)
    have h1 := crun_bit A (rows A.length) k hk
    have h2 := crun_bit B (rows A.length) k hk
    rw [e] at h1 h2
    refine bt_eq (h1.symm.trans (Iff.trans ?_ h2))
    unfold codeOf at h
    rw [← hl] at h
    rw [h]
  refine graph_ext hA hB hl fun i j hi hj => ?_
  rcases Nat.lt_trichotomy i j with h1 | h1 | h1
  · exact hp i j h1 hj
  · subst h1
    rw [(hA.2.2 i hi).2.1, (hB.2.2 i (by omega)).2.1]
  · rw [bt_sym hA hi hj, bt_sym hB (by omega) (by omega)]
    exact hp j i h1 hi
theorem take_at {P : List Nat} {i v : Nat} (h : v < i) : at_ (P.take i) v = at_ P v := by
  unfold at_
  rw [List.getElem?_take_of_lt h]
/-- **By codes and by trying.** -/
theorem ok_iff {L M : List Int} (hL : IsGraph L) (hM : IsGraph M) (hl : L.length = M.length) {P : List Nat} (h : Names L.length L.length P) : okFrom (fitB L M) 0 P = true ↔ codeOf (namedL L P) = codeOf M := by
  rw [okFrom_iff]
  constructor
  · intro hok
    have h1 : ∀ v i, v < i → i < L.length → bt L v i = bt M (at_ P v) (at_ P i) := fun v i hvi hi => by
      have h2 := hok i (Nat.zero_le _) (by rw [h.1]; exact hi)
      unfold fitB at h2
      have hlen : (P.take (i + 1)).length - 1 = i := by rw [List.length_take, h.1]; omega
      rw [hlen] at h2
      have h3 := List.all_eq_true.1 h2 v (List.mem_range.2 hvi)
      unfold okAt at h3
      rw [hlen, take_at (by omega), take_at (by omega)] at h3
      simpa using h3
    have h2 : namedL L P = M := by
      refine graph_ext (named_graph hL h) hM (by rw [namedL_length, hl]) fun i j hi hj => ?_
      rw [namedL_length] at hi hj
      obtain ⟨a, ha, rfl⟩ := at_surj h hi
      obtain ⟨b, hb, rfl⟩ := at_surj h hj
      rw [named_at h ha hb]
      rcases Nat.lt_trichotomy a b with h3 | h3 | h3
      · exact h1 a b h3 hb
      · subst h3
        rw [(hL.2.2 a ha).2.1, (hM.2.2 _ (by omega)).2.1]
      · rw [bt_sym hL ha hb, bt_sym hM (by omega) (by omega)]
        exact h1 b a h3 ha
    rw [h2]
  · intro hc i _ hi
    rw [h.1] at hi
    have h2 := code_inj (named_graph hL h) hM (by rw [namedL_length, hl]) hc
    unfold fitB
    have hlen : (P.take (i + 1)).length - 1 = i := by rw [List.length_take, h.1]; omega
    rw [hlen, List.all_eq_true]
    intro v hv
    have hv := List.mem_range.1 hv
    unfold okAt
    rw [hlen, take_at (by omega), take_at (by omega), ← h2, named_at h (by omega) hi]
    simp
end Go.Proofs.YtcblcifnpgmibaaDoor
