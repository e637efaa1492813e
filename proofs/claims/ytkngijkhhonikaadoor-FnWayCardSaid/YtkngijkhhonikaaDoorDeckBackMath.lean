/- What the tables tell of decks of 3 to 5 nodes: the first code with a deck is the least code of each graph with it. Plain mathematics, no condition. -/
import Derived.Test.YtkngijkhhonikaaDoorDeckTabB
import Derived.Test.YtkngijkhhonikaaDoorDeckTabC
import Derived.Test.YtkngijkhhonikaaDoorDeckTabD
import Derived.Test.YtkngijkhhonikaaDoorDeckTabE
import Derived.Test.YtkngijkhhonikaaDoorDegMath
namespace Go.Proofs.YtkngijkhhonikaaDoor
open Go Go.RowKit
set_option linter.unusedVariables false
set_option maxRecDepth 100000

theorem allAt_get {α : Type} {f : Nat → α → Bool} : ∀ (l : List α) (c : Nat), allAt f c l = true → ∀ (i : Nat) (x : α), l[i]? = some x → f (c + i) x = true
  | [], _, _, i, x, h => by simp at h
  | y :: l, c, h, 0, x, hx => by
    have h1 : (f c y && allAt f (c + 1) l) = true := h
    rw [Bool.and_eq_true] at h1
    simp at hx
    subst hx
    exact h1.1
  | y :: l, c, h, i + 1, x, hx => by
    have h1 : (f c y && allAt f (c + 1) l) = true := h
    rw [Bool.and_eq_true] at h1
    have h2 := allAt_get l (c + 1) h1.2 i x (by simpa using hx)
    rw [show c + (i + 1) = c + 1 + i by omega]
    exact h2
theorem inOrder_pw : ∀ l : List Nat, inOrder l = true → l.Pairwise (· ≤ ·)
  | [], _ => List.Pairwise.nil
  | [x], _ => by simp
  | x :: y :: l, h => by
    have h1 : (Nat.ble x y && inOrder (y :: l)) = true := h
    rw [Bool.and_eq_true] at h1
    have h2 := inOrder_pw (y :: l) h1.2
    have h3 := Nat.le_of_ble_eq_true h1.1
    refine List.Pairwise.cons (fun z hz => ?_) h2
    rcases List.mem_cons.1 hz with rfl | hz
    · exact h3
    · exact Nat.le_trans h3 ((List.pairwise_cons.1 h2).1 z hz)
theorem fdeck_mem : ∀ (F : List (Nat × List Nat)) (k : Nat), k ∈ F.map Prod.fst → (k, fdeck F k) ∈ F
  | [], k, h => by simp at h
  | e :: l, k, h => by
    unfold fdeck
    by_cases he : e.1 = k
    · subst he
      rw [if_pos (Nat.beq_refl _)]
      exact List.mem_cons_self
    · rw [if_neg (fun q => he (Nat.eq_of_beq_eq_true q))]
      rcases List.mem_cons.1 (by simpa using h : k ∈ e.1 :: l.map Prod.fst) with q | q
      · exact absurd q.symm he
      · exact List.mem_cons_of_mem _ (fdeck_mem l k q)
theorem ints_perm {xs ys : List Nat} (h : xs.Perm ys) : (ints xs).Perm (ints ys) := h.map _
theorem ints_pw {xs : List Nat} (h : xs.Pairwise (· ≤ ·)) : (ints xs).Pairwise (· ≤ ·) := by
  unfold ints
  rw [List.pairwise_map]
  exact h.imp (fun h => by omega)
theorem leastOk_get {m N : Nat} {T : List Nat} (h : leastOk m T N = true) (hN : N = 2 ^ (rows m).length) (h1 : 1 ≤ m) (h6 : m ≤ 6) {c : Nat} (hc : c < N) : leastL (codeG m c) = T.getD c 0 := by
  unfold leastOk at h
  rw [Bool.and_eq_true] at h
  have hl := Nat.eq_of_beq_eq_true h.1
  obtain ⟨t, ht⟩ : ∃ t, T[c]? = some t := ⟨_, List.getElem?_eq_getElem (by omega)⟩
  have h2 := allAt_get T 0 h.2 c t ht
  rw [Nat.zero_add, Bool.and_eq_true] at h2
  obtain ⟨h3, h4⟩ := h2
  have e : T.getD c 0 = t := by rw [List.getD_eq_getElem?_getD, ht]; rfl
  rw [e]
  have hg := codeG_graph c h1 h6
  have hlen := codeG_length m c
  refine Nat.le_antisymm ?_ ?_
  · have h5 : t ∈ namings m c := List.contains_iff_mem.1 h4
    obtain ⟨P, hP, e2⟩ := List.mem_map.1 h5
    rw [← e2]
    exact least_le (by rw [hlen]; exact perms_names _ _ P hP)
  · obtain ⟨P, hP, e2⟩ := least_is hg
    rw [e2]
    rw [hlen] at hP
    exact Nat.le_of_ble_eq_true (List.all_eq_true.1 h3 _ (List.mem_map.2 ⟨P, perms_all _ _ P hP, rfl⟩))
theorem ownOk_get {n : Nat} {F : List (Nat × List Nat)} (h : ownOk n F = true) (h1 : 1 ≤ n) (h6 : n ≤ 6) {e : Nat × List Nat} (he : e ∈ F) (hc : e.1 < 2 ^ (rows n).length) : leastL (codeG n e.1) = e.1 := by
  have h2 := List.all_eq_true.1 h e he
  have hg := codeG_graph e.1 h1 h6
  have hlen := codeG_length n e.1
  refine Nat.le_antisymm ?_ ?_
  · have h3 := least_le (L := codeG n e.1) (P := List.range (codeG n e.1).length) (perms_names _ _ _ (range_perms _ _ (Nat.le_refl _)))
    rw [named_id hg, codeG_code h6 hc] at h3
    exact h3
  · obtain ⟨P, hP, e2⟩ := least_is hg
    rw [hlen] at hP
    have h3 := Nat.le_of_ble_eq_true (List.all_eq_true.1 h2 _ (List.mem_map.2 ⟨P, perms_all _ _ P hP, rfl⟩))
    rw [e2]
    exact h3

/-- What the tables of one number of nodes tell. -/
structure Tabs (n N M b : Nat) (T K : List Nat) (F : List (Nat × List Nat)) : Prop where
  n1 : 2 ≤ n
  n6 : n ≤ 6
  eN : N = 2 ^ (rows n).length
  eM : M = 2 ^ (rows (n - 1)).length
  least : ∀ c, c < M → leastL (codeG (n - 1) c) = T.getD c 0
  deck : ∀ c, c < N → inOrder (fdeck F (K.getD c 0)) = true ∧ (fdeck F (K.getD c 0)).isPerm ((List.range n).map fun v => T.getD (codeOf (dropG (codeG n c) v)) 0) = true
  way : ∀ c, c < N → ∃ P, namesOk n P = true ∧ codeOf (namedL (codeG n c) P) = K.getD c 0
  first : ∀ c, c < N → K.getD c 0 ∈ F.map Prod.fst ∧ K.getD c 0 ≤ c
  same : ∀ e ∈ F, K.getD e.1 0 = e.1
  apart : ∀ e ∈ F, ∀ g ∈ F, e.2 = g.2 → e.1 = g.1
  own : ∀ e ∈ F, e.1 < N → leastL (codeG n e.1) = e.1
  over : ∀ e ∈ F, ∃ s, s < 2 ^ (n - 1) ∧ K.getD ((e.2.getD 0 0) ||| s * 2 ^ b) 0 = e.1

variable {n N M b : Nat} {T K : List Nat} {F : List (Nat × List Nat)}
theorem namesOk_names {P : List Nat} (h : namesOk n P = true) : Names n n P := by
  unfold namesOk at h
  rw [Bool.and_eq_true, Bool.and_eq_true] at h
  obtain ⟨⟨h1, h2⟩, h3⟩ := h
  have hl := Nat.eq_of_beq_eq_true h1
  have hlt : ∀ x ∈ P, x < n := fun x hx => Nat.le_of_ble_eq_true (List.all_eq_true.1 h2 x hx)
  refine ⟨hl, ?_, hlt⟩
  have hs : seenOf P = 2 ^ n - 1 := (seenOf_full P n hlt).2 fun j hj => List.contains_iff_mem.1 (List.all_eq_true.1 h3 j (List.mem_range.2 hj))
  exact (names_iff P n hl hlt).1 hs

/-- The deck of a code, by the tables. -/
theorem Tabs.deckL (t : Tabs n N M b T K F) {c : Nat} (hc : c < N) : deckL (codeG n c) = ints (fdeck F (K.getD c 0)) := by
  obtain ⟨h1, h2⟩ := t.deck c hc
  have hlen := codeG_length n c
  have hg := codeG_graph c (by have := t.n1; omega) t.n6
  have h3 : (fdeck F (K.getD c 0)).Perm ((List.range n).map (cardOf (codeG n c))) := by
    refine (List.isPerm_iff.1 h2).trans (List.Perm.of_eq (List.map_congr_left fun v hv => ?_))
    have hv' : v < (codeG n c).length := by rw [hlen]; exact List.mem_range.1 hv
    have hd := dropG_graph hg (by rw [hlen]; exact t.n1) hv'
    have hdl : (dropG (codeG n c) v).length = n - 1 := by rw [dropG_length hg hv', hlen]
    have h4 := t.least (codeOf (dropG (codeG n c) v)) (by rw [t.eM, ← hdl]; exact code_lt _)
    rw [← h4]
    unfold cardOf
    have h5 := codeG_of hd
    rw [hdl] at h5
    rw [h5]
  unfold Go.Proofs.YtkngijkhhonikaaDoor.deckL deckTo
  rw [hlen]
  exact (sortL_of (ints_perm h3) (ints_pw (inOrder_pw _ h1))).symm
theorem Tabs.leastL (t : Tabs n N M b T K F) {c : Nat} (hc : c < N) : leastL (codeG n c) = K.getD c 0 := by
  obtain ⟨P, h1, h2⟩ := t.way c hc
  have hlen := codeG_length n c
  have hg := codeG_graph c (by have := t.n1; omega) t.n6
  have hP : Names (codeG n c).length (codeG n c).length P := by rw [hlen]; exact namesOk_names h1
  have h3 := least_named hg hP
  have hN := named_graph hg hP
  have h4 := codeG_of hN
  rw [h2, namedL_length, hlen] at h4
  obtain ⟨e, he, e1⟩ := List.mem_map.1 (t.first c hc).1
  have h5 := t.own e he (by rw [e1]; exact Nat.lt_of_le_of_lt (t.first c hc).2 hc)
  rw [e1, h4] at h5
  rw [← h3, h5]
/-- **The least code is the first code with the deck.** -/
theorem Tabs.first_deck (t : Tabs n N M b T K F) {c c' : Nat} (hc : c < N) (hc' : c' < N) (h : Go.Proofs.YtkngijkhhonikaaDoor.deckL (codeG n c) = Go.Proofs.YtkngijkhhonikaaDoor.deckL (codeG n c')) : Go.Proofs.YtkngijkhhonikaaDoor.leastL (codeG n c) = Go.Proofs.YtkngijkhhonikaaDoor.leastL (codeG n c') := by
  rw [t.deckL hc, t.deckL hc'] at h
  rw [t.leastL hc, t.leastL hc']
  exact t.apart _ (fdeck_mem F _ (t.first c hc).1) _ (fdeck_mem F _ (t.first c' hc').1) (ints_inj h)
theorem Tabs.least_deck (t : Tabs n N M b T K F) {c : Nat} (hc : c < N) : Go.Proofs.YtkngijkhhonikaaDoor.leastL (codeG n c) ≤ c ∧ Go.Proofs.YtkngijkhhonikaaDoor.deckL (codeG n (Go.Proofs.YtkngijkhhonikaaDoor.leastL (codeG n c))) = Go.Proofs.YtkngijkhhonikaaDoor.deckL (codeG n c) := by
  rw [t.leastL hc]
  obtain ⟨h1, h2⟩ := t.first c hc
  obtain ⟨e, he, e1⟩ := List.mem_map.1 h1
  refine ⟨h2, ?_⟩
  rw [t.deckL (Nat.lt_of_le_of_lt h2 hc), t.deckL hc, ← e1, t.same e he]
/-- **A graph with the deck comes from the first card by one more node.** -/
theorem Tabs.over_deck (t : Tabs n N M b T K F) (hover : ∀ e ∈ F, ∀ s, s < 2 ^ (n - 1) → (e.2.getD 0 0) ||| s * 2 ^ b < N) {c : Nat} (hc : c < N) :
    ∃ s, s < 2 ^ (n - 1) ∧ Go.Proofs.YtkngijkhhonikaaDoor.deckL (codeG n (((Go.Proofs.YtkngijkhhonikaaDoor.deckL (codeG n c))[0]?.getD 0).toNat ||| s * 2 ^ b)) = Go.Proofs.YtkngijkhhonikaaDoor.deckL (codeG n c) := by
  have hm := fdeck_mem F _ (t.first c hc).1
  obtain ⟨s, hs, e⟩ := t.over _ hm
  refine ⟨s, hs, ?_⟩
  have hlt := hover _ hm s hs
  have e0 : ((Go.Proofs.YtkngijkhhonikaaDoor.deckL (codeG n c))[0]?.getD 0).toNat = (fdeck F (K.getD c 0)).getD 0 0 := by
    rw [t.deckL hc, ints_get, List.getD_eq_getElem?_getD]
    simp
  rw [e0, t.deckL hlt, t.deckL hc, e]

/-! ### the three tables -/
theorem some_getD {α : Type} {l : List α} {c : Nat} (h : c < l.length) (d : α) : l[c]? = some (l.getD c d) := by
  rw [List.getD_eq_getElem?_getD, List.getElem?_eq_getElem h]; rfl
theorem chunk_at {α : Type} {l : List α} {a k c : Nat} (h1 : a ≤ c) (h2 : c < a + k) : ((l.drop a).take k)[c - a]? = l[c]? := by
  rw [List.getElem?_take_of_lt (by omega), List.getElem?_drop]
  congr 1
  omega
def DeckAt (n : Nat) (T K : List Nat) (F : List (Nat × List Nat)) (c : Nat) : Prop := inOrder (fdeck F (K.getD c 0)) = true ∧ (fdeck F (K.getD c 0)).isPerm ((List.range n).map fun v => T.getD (codeOf (dropG (codeG n c) v)) 0) = true
theorem deckOk_at {a i c : Nat} {l : List Nat} (h : deckOk n T F a l = true) (hi : l[i]? = K[c]?) (hc : c < K.length) (e : c = a + i) : DeckAt n T K F c := by
  have h1 := allAt_get l a h i (K.getD c 0) (hi.trans (some_getD hc 0))
  rw [← e, Bool.and_eq_true] at h1
  exact h1
theorem wayOk_at {a i c : Nat} {W : List (List Nat)} {l : List (Nat × List Nat)} (h : wayOk n a l = true) (hi : l[i]? = (K.zip W)[c]?) (hc : c < K.length) (hw : c < W.length) (e : c = a + i) : ∃ P, namesOk n P = true ∧ codeOf (namedL (codeG n c) P) = K.getD c 0 := by
  have h0 : (K.zip W)[c]? = some (K.getD c 0, W.getD c []) := by
    rw [List.getElem?_zip_eq_some]
    exact ⟨some_getD hc 0, some_getD hw []⟩
  have h1 := allAt_get l a h i _ (hi.trans h0)
  rw [← e, Bool.and_eq_true] at h1
  exact ⟨_, h1.1, Nat.eq_of_beq_eq_true h1.2⟩
theorem firstOk_len (h : firstOk K F N = true) : K.length = N := by
  unfold firstOk at h
  rw [Bool.and_eq_true, Bool.and_eq_true] at h
  exact Nat.eq_of_beq_eq_true h.1.1
theorem firstOk_at (h : firstOk K F N = true) {c : Nat} (hc : c < N) : K.getD c 0 ∈ F.map Prod.fst ∧ K.getD c 0 ≤ c := by
  have hl := firstOk_len h
  unfold firstOk at h
  rw [Bool.and_eq_true, Bool.and_eq_true] at h
  have h1 := allAt_get K 0 h.1.2 c _ (some_getD (by omega) 0)
  rw [Nat.zero_add, Bool.and_eq_true] at h1
  exact ⟨List.contains_iff_mem.1 h1.1, Nat.le_of_ble_eq_true h1.2⟩
theorem firstOk_same (h : firstOk K F N = true) : ∀ e ∈ F, K.getD e.1 0 = e.1 := fun e he => by
  unfold firstOk at h
  rw [Bool.and_eq_true] at h
  exact Nat.eq_of_beq_eq_true (List.all_eq_true.1 h.2 e he)
theorem apartOk_at (h : apartOk F = true) : ∀ e ∈ F, ∀ g ∈ F, e.2 = g.2 → e.1 = g.1 := fun e he g hg q => by
  have h1 := List.all_eq_true.1 (List.all_eq_true.1 h e he) g hg
  rw [Bool.or_eq_true] at h1
  rcases h1 with h1 | h1
  · exact Nat.eq_of_beq_eq_true h1
  · rw [q] at h1
    simp at h1
theorem overOk_at (h : overOk n b K F = true) : ∀ e ∈ F, ∃ s, s < 2 ^ (n - 1) ∧ K.getD ((e.2.getD 0 0) ||| s * 2 ^ b) 0 = e.1 := fun e he => by
  obtain ⟨s, hs, h1⟩ := List.any_eq_true.1 (List.all_eq_true.1 h e he)
  exact ⟨s, List.mem_range.1 hs, Nat.eq_of_beq_eq_true h1⟩

theorem tabs3 : Tabs 3 8 2 1 tabL2 tabK3 firsts3 where
  n1 := by decide
  n6 := by decide
  eN := by decide +kernel
  eM := by decide +kernel
  least := fun c hc => leastOk_get least2 (by decide +kernel) (by decide) (by decide) hc
  deck := fun c hc => deckOk_at (i := c) deck3 rfl (by rw [firstOk_len first3]; exact hc) (Nat.zero_add c).symm
  way := fun c hc => wayOk_at (i := c) way3 rfl (by rw [firstOk_len first3]; exact hc) (show c < 8 from hc) (Nat.zero_add c).symm
  first := fun c hc => firstOk_at first3 hc
  same := firstOk_same first3
  apart := apartOk_at apart3
  own := fun e he hc => ownOk_get own3 (by decide) (by decide) he (by rw [show 2 ^ (rows 3).length = 8 by decide +kernel]; exact hc)
  over := overOk_at over3
theorem tabs4 : Tabs 4 64 8 3 tabL3 tabK4 firsts4 where
  n1 := by decide
  n6 := by decide
  eN := by decide +kernel
  eM := by decide +kernel
  least := fun c hc => leastOk_get least3 (by decide +kernel) (by decide) (by decide) hc
  deck := fun c hc => deckOk_at (i := c) deck4 rfl (by rw [firstOk_len first4]; exact hc) (Nat.zero_add c).symm
  way := fun c hc => wayOk_at (i := c) way4 rfl (by rw [firstOk_len first4]; exact hc) (show c < 64 from hc) (Nat.zero_add c).symm
  first := fun c hc => firstOk_at first4 hc
  same := firstOk_same first4
  apart := apartOk_at apart4
  own := fun e he hc => ownOk_get own4 (by decide) (by decide) he (by rw [show 2 ^ (rows 4).length = 64 by decide +kernel]; exact hc)
  over := overOk_at over4
theorem len5 : tabK5.length = 1024 := firstOk_len first5
theorem lenW5 : tabW5.length = 1024 := by decide +kernel
theorem deck5_in {a c : Nat} (h : deckOk 5 tabL4 firsts5 a ((tabK5.drop a).take 128) = true) (hc : c < 1024) (h1 : a ≤ c) (h2 : c < a + 128) : DeckAt 5 tabL4 tabK5 firsts5 c :=
  deckOk_at (i := c - a) h (chunk_at h1 h2) (by rw [len5]; exact hc) (by omega)
theorem way5_in {a c : Nat} (h : wayOk 5 a (((tabK5.zip tabW5).drop a).take 128) = true) (hc : c < 1024) (h1 : a ≤ c) (h2 : c < a + 128) : ∃ P, namesOk 5 P = true ∧ codeOf (namedL (codeG 5 c) P) = tabK5.getD c 0 :=
  wayOk_at (i := c - a) h (chunk_at h1 h2) (by rw [len5]; exact hc) (by rw [lenW5]; exact hc) (by omega)
theorem eighths {c : Nat} (hc : c < 1024) : (0 ≤ c ∧ c < 0 + 128) ∨ (128 ≤ c ∧ c < 128 + 128) ∨ (256 ≤ c ∧ c < 256 + 128) ∨ (384 ≤ c ∧ c < 384 + 128) ∨ (512 ≤ c ∧ c < 512 + 128) ∨ (640 ≤ c ∧ c < 640 + 128) ∨ (768 ≤ c ∧ c < 768 + 128) ∨ (896 ≤ c ∧ c < 896 + 128) := by omega
theorem deck5_all {c : Nat} (hc : c < 1024) : DeckAt 5 tabL4 tabK5 firsts5 c := by
  rcases eighths hc with ⟨h, k⟩ | ⟨h, k⟩ | ⟨h, k⟩ | ⟨h, k⟩ | ⟨h, k⟩ | ⟨h, k⟩ | ⟨h, k⟩ | ⟨h, k⟩
  · exact deck5_in deck5_0 hc h k
  · exact deck5_in deck5_1 hc h k
  · exact deck5_in deck5_2 hc h k
  · exact deck5_in deck5_3 hc h k
  · exact deck5_in deck5_4 hc h k
  · exact deck5_in deck5_5 hc h k
  · exact deck5_in deck5_6 hc h k
  · exact deck5_in deck5_7 hc h k
theorem way5_all {c : Nat} (hc : c < 1024) : ∃ P, namesOk 5 P = true ∧ codeOf (namedL (codeG 5 c) P) = tabK5.getD c 0 := by
  rcases eighths hc with ⟨h, k⟩ | ⟨h, k⟩ | ⟨h, k⟩ | ⟨h, k⟩ | ⟨h, k⟩ | ⟨h, k⟩ | ⟨h, k⟩ | ⟨h, k⟩
  · exact way5_in way5_0 hc h k
  · exact way5_in way5_1 hc h k
  · exact way5_in way5_2 hc h k
  · exact way5_in way5_3 hc h k
  · exact way5_in way5_4 hc h k
  · exact way5_in way5_5 hc h k
  · exact way5_in way5_6 hc h k
  · exact way5_in way5_7 hc h k
theorem pieces5 : firsts5 = (firsts5.drop 0).take 4 ++ ((firsts5.drop 4).take 4 ++ ((firsts5.drop 8).take 4 ++ ((firsts5.drop 12).take 4 ++ ((firsts5.drop 16).take 4 ++ ((firsts5.drop 20).take 4 ++ ((firsts5.drop 24).take 4 ++ ((firsts5.drop 28).take 4 ++ (firsts5.drop 32).take 4))))))) := by decide +kernel
theorem own5_all {e : Nat × List Nat} (he : e ∈ firsts5) (hc : e.1 < 1024) : leastL (codeG 5 e.1) = e.1 := by
  have hc' : e.1 < 2 ^ (rows 5).length := by rw [show 2 ^ (rows 5).length = 1024 by decide +kernel]; exact hc
  rw [pieces5] at he
  simp only [List.mem_append] at he
  rcases he with h | h | h | h | h | h | h | h | h
  · exact ownOk_get own5_0 (by decide) (by decide) h hc'
  · exact ownOk_get own5_1 (by decide) (by decide) h hc'
  · exact ownOk_get own5_2 (by decide) (by decide) h hc'
  · exact ownOk_get own5_3 (by decide) (by decide) h hc'
  · exact ownOk_get own5_4 (by decide) (by decide) h hc'
  · exact ownOk_get own5_5 (by decide) (by decide) h hc'
  · exact ownOk_get own5_6 (by decide) (by decide) h hc'
  · exact ownOk_get own5_7 (by decide) (by decide) h hc'
  · exact ownOk_get own5_8 (by decide) (by decide) h hc'
theorem tabs5 : Tabs 5 1024 64 6 tabL4 tabK5 firsts5 where
  n1 := by decide
  n6 := by decide
  eN := by decide +kernel
  eM := by decide +kernel
  least := fun c hc => leastOk_get least4 (by decide +kernel) (by decide) (by decide) hc
  deck := fun c hc => deck5_all hc
  way := fun c hc => way5_all hc
  first := fun c hc => firstOk_at first5 hc
  same := firstOk_same first5
  apart := apartOk_at apart5
  own := fun e he hc => own5_all he hc
  over := overOk_at over5
def overLt (n b N : Nat) (F : List (Nat × List Nat)) : Bool := F.all fun e => (List.range (2 ^ (n - 1))).all fun s => Nat.blt ((e.2.getD 0 0) ||| s * 2 ^ b) N
theorem overLt_at (h : overLt n b N F = true) : ∀ e ∈ F, ∀ s, s < 2 ^ (n - 1) → (e.2.getD 0 0) ||| s * 2 ^ b < N := fun e he s hs =>
  Nat.le_of_ble_eq_true (List.all_eq_true.1 (List.all_eq_true.1 h e he) s (List.mem_range.2 hs))
/-- **For 3 to 5 nodes**: what DeckBack stands on. -/
theorem back_facts {n : Nat} (h3 : 3 ≤ n) (h5 : n ≤ 5) {c : Nat} (hc : c < 2 ^ (rows n).length) :
    (∀ c', c' < 2 ^ (rows n).length → deckL (codeG n c') = deckL (codeG n c) → leastL (codeG n c') = leastL (codeG n c)) ∧ leastL (codeG n c) ≤ c ∧ deckL (codeG n (leastL (codeG n c))) = deckL (codeG n c) ∧
      ∃ s, s < 2 ^ (n - 1) ∧ deckL (codeG n (((deckL (codeG n c))[0]?.getD 0).toNat ||| s * 2 ^ (rows (n - 1)).length)) = deckL (codeG n c) := by
  rcases (by omega : n = 3 ∨ n = 4 ∨ n = 5) with rfl | rfl | rfl
  · have hc' : c < 8 := hc
    have h := tabs3.over_deck (overLt_at (by decide +kernel)) hc'
    exact ⟨fun c1 h1 q => tabs3.first_deck h1 hc' q, (tabs3.least_deck hc').1, (tabs3.least_deck hc').2, h⟩
  · have hc' : c < 64 := hc
    have h := tabs4.over_deck (overLt_at (by decide +kernel)) hc'
    exact ⟨fun c1 h1 q => tabs4.first_deck h1 hc' q, (tabs4.least_deck hc').1, (tabs4.least_deck hc').2, h⟩
  · have hc' : c < 1024 := hc
    have h := tabs5.over_deck (overLt_at (by decide +kernel)) hc'
    exact ⟨fun c1 h1 q => tabs5.first_deck h1 hc' q, (tabs5.least_deck hc').1, (tabs5.least_deck hc').2, h⟩
end Go.Proofs.YtkngijkhhonikaaDoor
