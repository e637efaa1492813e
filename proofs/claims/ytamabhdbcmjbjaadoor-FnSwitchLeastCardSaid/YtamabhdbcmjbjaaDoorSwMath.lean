/- A graph switched at a set of nodes; the least of the least codes of all graphs that come by switching. Plain mathematics, no condition. -/
import Derived.Test.YtamabhdbcmjbjaaDoorBaseG
import Derived.Test.YtamabhdbcmjbjaaDoorBits
import Derived.Test.YtamabhdbcmjbjaaDoorBaseA
namespace Go.Proofs.YtamabhdbcmjbjaaDoor
open Go Go.RowKit
set_option linter.unusedVariables false
set_option maxRecDepth 100000

theorem xor_div (a b j : Nat) : (a ^^^ b) / 2 ^ j % 2 = (a / 2 ^ j % 2 + b / 2 ^ j % 2) % 2 := by
  have h := Nat.testBit_xor a b j
  have h1 := mod_bit a j
  have h2 := mod_bit b j
  have h3 := mod_bit (a ^^^ b) j
  rw [h] at h3
  have u1 : a / 2 ^ j % 2 < 2 := Nat.mod_lt _ (by omega)
  have u2 : b / 2 ^ j % 2 < 2 := Nat.mod_lt _ (by omega)
  have u3 : (a ^^^ b) / 2 ^ j % 2 < 2 := Nat.mod_lt _ (by omega)
  obtain ⟨x, ex⟩ : ∃ x, x = a / 2 ^ j % 2 := ⟨_, rfl⟩
  obtain ⟨y, ey⟩ : ∃ y, y = b / 2 ^ j % 2 := ⟨_, rfl⟩
  obtain ⟨z, ez⟩ : ∃ z, z = (a ^^^ b) / 2 ^ j % 2 := ⟨_, rfl⟩
  rw [← ex] at h1 u1 ⊢
  rw [← ey] at h2 u2 ⊢
  rw [← ez] at h3 u3 ⊢
  clear ex ey ez h
  cases h4 : a.testBit j <;> cases h5 : b.testBit j <;> rw [h4] at h1 h3 <;> rw [h5] at h2 h3 <;> simp at h1 h2 h3 <;> omega

/-- What a row is turned by. -/
def swMask (n s i : Nat) : Nat := if s / 2 ^ i % 2 = 1 then less (2 ^ n - 1) s else s
theorem swMask_facts : ∀ (n : Fin 7) (i : Fin 6) (s : Fin 64), i.val < n.val → s.val < 2 ^ n.val → swMask n.val s.val i.val < 2 ^ n.val ∧
    ∀ j : Fin 6, j.val < n.val → swMask n.val s.val i.val / 2 ^ j.val % 2 = if i = j then 0 else (s.val / 2 ^ i.val % 2 + s.val / 2 ^ j.val % 2) % 2 := by decide +kernel
def swL (L : List Int) (s : Nat) : List Int := (List.range L.length).map fun i => ((ent L i ^^^ swMask L.length s i : Nat) : Int)
theorem swL_length (L : List Int) (s : Nat) : (swL L s).length = L.length := by simp [swL]
theorem swL_get (L : List Int) (s : Nat) {i : Nat} (hi : i < L.length) : (swL L s)[i]?.getD 0 = ((ent L i ^^^ swMask L.length s i : Nat) : Int) := by
  unfold swL
  simp [hi]
theorem swL_ent (L : List Int) (s : Nat) {i : Nat} (hi : i < L.length) : ent (swL L s) i = ent L i ^^^ swMask L.length s i := by
  show ((swL L s)[i]?.getD 0).toNat = _
  rw [swL_get L s hi]
  rfl
theorem sw_bt {L : List Int} (hL : IsGraph L) {s : Nat} (hs : s < 2 ^ L.length) {i j : Nat} (hi : i < L.length) (hj : j < L.length) :
    bt (swL L s) i j = (bt L i j + if i = j then 0 else (s / 2 ^ i % 2 + s / 2 ^ j % 2) % 2) % 2 := by
  have h6 := hL.2.1
  have h64 := two_le h6
  have hm := (swMask_facts ⟨L.length, by omega⟩ ⟨i, by omega⟩ ⟨s, by omega⟩ hi hs).2 ⟨j, by omega⟩ hj
  dsimp only at hm
  have e : ((⟨i, by omega⟩ : Fin 6) = ⟨j, by omega⟩) ↔ i = j := by simp
  unfold bt
  rw [swL_ent L s hi, xor_div, hm]
  by_cases h : i = j
  · rw [if_pos h, if_pos (e.2 h)]
  · rw [if_neg h, if_neg (fun q => h (e.1 q))]
theorem sw_graph {L : List Int} (hL : IsGraph L) {s : Nat} (hs : s < 2 ^ L.length) : IsGraph (swL L s) := by
  have h6 := hL.2.1
  have h64 := two_le h6
  have hl := swL_length L s
  refine ⟨by rw [hl]; exact hL.1, by rw [hl]; exact h6, fun v hv => ?_⟩
  rw [hl] at hv
  refine ⟨?_, ?_, fun w hw => ?_⟩
  · unfold InR
    rw [hl, swL_get L s hv]
    have h1 := ent_lt (hL.2.2 v hv).1
    have h2 := (swMask_facts ⟨L.length, by omega⟩ ⟨v, by omega⟩ ⟨s, by omega⟩ hv hs).1
    dsimp only at h2
    have h3 := Nat.xor_lt_two_pow h1 h2
    omega
  · rw [sw_bt hL hs hv hv, if_pos rfl, (hL.2.2 v hv).2.1]
  · rw [sw_bt hL hs hv (by omega), sw_bt hL hs (by omega) hv, if_neg (by omega), if_neg (by omega), (hL.2.2 v hv).2.2 w hw, Nat.add_comm (s / 2 ^ v % 2)]
theorem sw_sw {L : List Int} (hL : IsGraph L) {s t : Nat} (hs : s < 2 ^ L.length) (ht : t < 2 ^ L.length) : swL (swL L s) t = swL L (s ^^^ t) := by
  have hl := swL_length L s
  have hg := sw_graph hL hs
  have hx : s ^^^ t < 2 ^ L.length := Nat.xor_lt_two_pow hs ht
  refine graph_ext (sw_graph hg (by rw [hl]; exact ht)) (sw_graph hL hx) (by rw [swL_length, swL_length, swL_length]) fun i j hi hj => ?_
  rw [swL_length, hl] at hi hj
  rw [sw_bt hg (by rw [hl]; exact ht) (by rw [hl]; exact hi) (by rw [hl]; exact hj), sw_bt hL hs hi hj, sw_bt hL hx hi hj]
  by_cases h : i = j
  · simp [h]
  · rw [if_neg h, if_neg h, if_neg h, xor_div, xor_div]
    omega
theorem sw_zero {L : List Int} (hL : IsGraph L) : swL L 0 = L := by
  have hp := two_pos L.length
  refine graph_ext (sw_graph hL (by omega)) hL (swL_length L 0) fun i j hi hj => ?_
  rw [swL_length] at hi hj
  rw [sw_bt hL (by omega) hi hj]
  have := bt_le L i j
  by_cases h : i = j
  · rw [if_pos h]; omega
  · rw [if_neg h, Nat.zero_div, Nat.zero_div]; omega
theorem all_bit {n i : Nat} (h6 : n ≤ 6) (hi : i < n) : (2 ^ n - 1) / 2 ^ i % 2 = 1 := by
  have h : ∀ (n : Fin 7) (i : Fin 6), i.val < n.val → (2 ^ n.val - 1) / 2 ^ i.val % 2 = 1 := by decide
  exact h ⟨n, by omega⟩ ⟨i, by omega⟩ hi
theorem sw_all {L : List Int} (hL : IsGraph L) {s : Nat} (hs : s < 2 ^ L.length) : swL L (s ^^^ (2 ^ L.length - 1)) = swL L s := by
  have hp := two_pos L.length
  have h6 := hL.2.1
  have hx : s ^^^ (2 ^ L.length - 1) < 2 ^ L.length := Nat.xor_lt_two_pow hs (by omega)
  refine graph_ext (sw_graph hL hx) (sw_graph hL hs) (by rw [swL_length, swL_length]) fun i j hi hj => ?_
  rw [swL_length] at hi hj
  rw [sw_bt hL hs hi hj, sw_bt hL hx hi hj]
  by_cases h : i = j
  · simp [h]
  · rw [if_neg h, if_neg h, xor_div, xor_div, all_bit h6 hi, all_bit h6 hj]
    omega

/-! ### turned node by node -/
/-- One pair turned, in place. -/
def turnP (v : Nat) (M : List Int) (w : Nat) : List Int := if w = v then M else (M.set v ((ent M v ^^^ 2 ^ w : Nat) : Int)).set w ((ent M w ^^^ 2 ^ v : Nat) : Int)
def turnOver (L : List Int) (v : Nat) (ps : List Nat) : List Int := ps.foldl (turnP v) L
theorem turnOver_nil (L : List Int) (v : Nat) : turnOver L v [] = L := rfl
theorem turnOver_snoc (L : List Int) (v : Nat) (ps : List Nat) (y : Nat) : turnOver L v (ps ++ [y]) = turnP v (turnOver L v ps) y := by simp [turnOver]
def turnTo (L : List Int) (v k : Nat) : List Int := turnOver L v (List.range k)
theorem turnTo_zero (L : List Int) (v : Nat) : turnTo L v 0 = L := rfl
theorem turnTo_succ (L : List Int) (v k : Nat) : turnTo L v (k + 1) = turnP v (turnTo L v k) k := by unfold turnTo; rw [List.range_succ, turnOver_snoc]
theorem turnP_length (v : Nat) (M : List Int) (w : Nat) : (turnP v M w).length = M.length := by unfold turnP; split <;> simp
theorem turnTo_length (L : List Int) (v k : Nat) : (turnTo L v k).length = L.length := by
  induction k with
  | zero => rfl
  | succ k ih => rw [turnTo_succ, turnP_length, ih]
theorem turnP_ent {v w : Nat} {M : List Int} (hv : v < M.length) (hw : w < M.length) (i : Nat) :
    ent (turnP v M w) i = ent M i ^^^ (if w = v then 0 else if i = v then 2 ^ w else if i = w then 2 ^ v else 0) := by
  unfold turnP
  by_cases h : w = v
  · rw [if_pos h, if_pos h, Nat.xor_zero]
  · rw [if_neg h, if_neg h]
    by_cases h1 : i = v
    · subst h1
      rw [if_pos rfl]
      show (((M.set i _).set w _)[i]?.getD 0).toNat = _
      rw [List.getElem?_set_ne h, List.getElem?_set_self hv]
      rfl
    · rw [if_neg h1]
      by_cases h2 : i = w
      · subst h2
        rw [if_pos rfl]
        show (((M.set v _).set i _)[i]?.getD 0).toNat = _
        rw [List.getElem?_set_self (by rw [List.length_set]; exact hw)]
        rfl
      · rw [if_neg h2, Nat.xor_zero]
        show (((M.set v _).set w _)[i]?.getD 0).toNat = _
        rw [List.getElem?_set_ne (fun q => h2 q.symm), List.getElem?_set_ne (fun q => h1 q.symm)]
        rfl
def turnMask (v i : Nat) : Nat → Nat
  | 0 => 0
  | k + 1 => turnMask v i k ^^^ (if k = v then 0 else if i = v then 2 ^ k else if i = k then 2 ^ v else 0)
theorem turnTo_ent {L : List Int} {v : Nat} (hv : v < L.length) (i : Nat) : ∀ k, k ≤ L.length → ent (turnTo L v k) i = ent L i ^^^ turnMask v i k
  | 0, _ => by rw [turnTo_zero]; exact (Nat.xor_zero _).symm
  | k + 1, hk => by
    have hl := turnTo_length L v k
    rw [turnTo_succ, turnP_ent (by rw [hl]; exact hv) (by rw [hl]; omega), turnTo_ent hv i k (by omega), Nat.xor_assoc]
    rfl
theorem turnMask_all : ∀ (n : Fin 7) (v i : Fin 6), v.val < n.val → i.val < n.val → turnMask v.val i.val n.val = swMask n.val (2 ^ v.val) i.val := by decide +kernel
theorem turnMask_lt : ∀ (v i : Fin 6) (k : Fin 7), turnMask v.val i.val k.val < 64 := by decide +kernel
theorem turnOver_length (L : List Int) (v : Nat) (ps : List Nat) : (turnOver L v ps).length = L.length := by
  induction ps using snoc_ind with
  | h0 => rfl
  | h1 l x ih => rw [turnOver_snoc, turnP_length, ih]
theorem turnOver_int {L : List Int} (hL : IsGraph L) {v : Nat} (hv : v < L.length) (ps : List Nat) : ∀ i, i < L.length → (turnOver L v ps)[i]?.getD 0 = ((ent (turnOver L v ps) i : Nat) : Int) := by
  induction ps using snoc_ind with
  | h0 => exact fun i hi => ent_int (hL.2.2 i hi).1
  | h1 l k ih =>
    intro i hi
    have hl := turnOver_length L v l
    rw [turnOver_snoc]
    obtain ⟨M, eM⟩ : ∃ M, M = turnOver L v l := ⟨_, rfl⟩
    rw [← eM] at ih hl ⊢
    unfold turnP
    by_cases h : k = v
    · rw [if_pos h]; exact ih i hi
    · rw [if_neg h]
      unfold ent
      by_cases h2 : i = k
      · subst h2
        rw [List.getElem?_set_self (by rw [List.length_set, hl]; exact hi)]
        rfl
      · rw [List.getElem?_set_ne (fun q => h2 q.symm)]
        by_cases h1 : i = v
        · subst h1
          rw [List.getElem?_set_self (by rw [hl]; exact hi)]
          rfl
        · rw [List.getElem?_set_ne (fun q => h1 q.symm)]
          exact ih i hi
theorem turnTo_int {L : List Int} (hL : IsGraph L) {v : Nat} (hv : v < L.length) (k : Nat) : ∀ i, i < L.length → (turnTo L v k)[i]?.getD 0 = ((ent (turnTo L v k) i : Nat) : Int) := turnOver_int hL hv _
theorem turnOver_lt {L : List Int} (hL : IsGraph L) {v : Nat} (hv : v < L.length) (ps : List Nat) (hp : ∀ x ∈ ps, x < L.length) (i : Nat) : ent (turnOver L v ps) i < 64 := by
  have h6 := hL.2.1
  induction ps using snoc_ind with
  | h0 =>
    by_cases h : i < L.length
    · have h1 := ent_lt (hL.2.2 i h).1
      have h2 := two_le h6
      exact Nat.lt_of_lt_of_le h1 h2
    · show (((L)[i]?.getD 0).toNat) < 64
      rw [List.getElem?_eq_none (by omega)]
      decide
  | h1 l k ih =>
    have ih := ih (fun x hx => hp x (by simp [hx]))
    have hk := hp k (by simp)
    have hl := turnOver_length L v l
    rw [turnOver_snoc, turnP_ent (by rw [hl]; exact hv) (by rw [hl]; exact hk)]
    refine Nat.xor_lt_two_pow (n := 6) ih ?_
    have e1 : 2 ^ k < 2 ^ 6 := Nat.pow_lt_pow_right (by omega) (by omega)
    have e2 : 2 ^ v < 2 ^ 6 := Nat.pow_lt_pow_right (by omega) (by omega)
    split
    · decide
    · split
      · exact e1
      · split
        · exact e2
        · decide
/-- **To turn all pairs of a node is to switch at it.** -/
theorem turn_all {L : List Int} (hL : IsGraph L) {v : Nat} (hv : v < L.length) : turnTo L v L.length = swL L (2 ^ v) := by
  have h6 := hL.2.1
  refine List.ext_getElem (by rw [turnTo_length, swL_length]) fun i h1 h2 => ?_
  have hi : i < L.length := by rw [swL_length] at h2; exact h2
  have e1 := turnTo_int hL hv L.length i hi
  have e2 := swL_get L (2 ^ v) hi
  rw [List.getElem?_eq_getElem h1] at e1
  rw [List.getElem?_eq_getElem h2] at e2
  have e3 := turnMask_all ⟨L.length, by omega⟩ ⟨v, by omega⟩ ⟨i, by omega⟩ hv hi
  dsimp only at e3
  rw [turnTo_ent hv i L.length (Nat.le_refl _), e3] at e1
  exact e1.trans e2.symm
/-- The set of some nodes, turned one by one. -/
def xsum (vs : List Nat) : Nat := vs.foldl (fun s v => s ^^^ 2 ^ v) 0
theorem xsum_snoc (vs : List Nat) (v : Nat) : xsum (vs ++ [v]) = xsum vs ^^^ 2 ^ v := by simp [xsum]
theorem xsum_nodes : ∀ s : Fin 64, xsum (nodesL s.val) = s.val := by decide +kernel
theorem xsum_lt (n : Nat) (vs : List Nat) (h : ∀ v ∈ vs, v < n) : xsum vs < 2 ^ n := by
  induction vs using snoc_ind with
  | h0 => exact two_pos n
  | h1 l x ih =>
    rw [xsum_snoc]
    exact Nat.xor_lt_two_pow (ih fun v hv => h v (by simp [hv])) (Nat.pow_lt_pow_right (by omega) (h x (by simp)))
theorem sw_turn {L : List Int} (hL : IsGraph L) {vs : List Nat} (h : ∀ v ∈ vs, v < L.length) {v : Nat} (hv : v < L.length) : swL (swL L (xsum vs)) (2 ^ v) = swL L (xsum (vs ++ [v])) := by
  rw [xsum_snoc]
  exact sw_sw hL (xsum_lt _ _ h) (Nat.pow_lt_pow_right (by omega) hv)

/-! ### the least of all -/
theorem bit_high {c K : Nat} (h : c.testBit K = true) : 2 ^ K ≤ c := by
  refine Nat.le_of_not_lt fun hl => ?_
  rw [Nat.testBit_lt_two_pow hl] at h
  cases h
theorem rows_split (m : Nat) : rows (m + 1) = rows m ++ (List.range m).map fun x => (x, m) := by rw [← upto_end]; rfl
/-- A graph whose last node has no neighbours has no greater code than one in which it has some. -/
theorem last_none {A B : List Int} (hA : IsGraph A) (hB : IsGraph B) {m : Nat} (hlA : A.length = m + 1) (hlB : B.length = m + 1) (h0 : ∀ i, i < m → bt A i m = 0) {x : Nat} (hx : x < m) (h1 : bt B x m = 1) : codeOf A ≤ codeOf B := by
  have h2 : codeOf A < 2 ^ (rows m).length := by
    refine Nat.lt_pow_two_of_testBit _ fun k hk => ?_
    cases e : (codeOf A).testBit k with
    | false => rfl
    | true =>
      unfold codeOf at e
      rw [hlA] at e
      by_cases hkl : k < (rows (m + 1)).length
      · rw [crun_bit A _ k hkl] at e
        have hg : (rows (m + 1))[k]? = some ((rows (m + 1))[k]) := List.getElem?_eq_getElem hkl
        obtain ⟨y, ey⟩ : ∃ y, y = (rows (m + 1))[k] := ⟨_, rfl⟩
        rw [← ey] at hg e
        rw [rows_split, List.getElem?_append_right hk, List.getElem?_map] at hg
        have hkm : k - (rows m).length < m := by
          rw [rows_split, List.length_append, List.length_map, List.length_range] at hkl
          omega
        rw [List.getElem?_range hkm] at hg
        simp only [Option.map_some, Option.some.injEq] at hg
        rw [← hg] at e
        have := h0 _ hkm
        dsimp only at e
        omega
      · have h3 := crun_lt A (rows (m + 1))
        have h4 : (crun A (rows (m + 1))).1 < 2 ^ k := Nat.lt_of_lt_of_le h3 (Nat.pow_le_pow_right (by omega) (by omega))
        rw [Nat.testBit_lt_two_pow h4] at e
        cases e
  have h3 : 2 ^ (rows m).length ≤ codeOf B := by
    have hkx : (rows (m + 1))[(rows m).length + x]? = some (x, m) := by
      rw [rows_split, List.getElem?_append_right (by omega), List.getElem?_map, Nat.add_sub_cancel_left, List.getElem?_range hx]
      rfl
    obtain ⟨hk, e⟩ := List.getElem?_eq_some_iff.1 hkx
    have h4 : (codeOf B).testBit ((rows m).length + x) = true := by
      unfold codeOf
      rw [hlB, crun_bit B _ _ hk, e]
      exact h1
    exact Nat.le_trans (Nat.pow_le_pow_right (by omega) (by omega)) (bit_high h4)
  omega
/-- **Among the graphs that come by switching, one in which some node has no neighbours has no greater least code.** -/
theorem sw_least {L : List Int} (hL : IsGraph L) {s : Nat} (hs : s < 2 ^ L.length) : ∃ v, v < L.length ∧ leastL (swL L (ent L v)) ≤ leastL (swL L s) := by
  have h6 := hL.2.1
  have hn1 := hL.1
  have hl := swL_length L s
  have hg := sw_graph hL hs
  obtain ⟨P, hP, e⟩ := least_is hg
  rw [hl] at hP
  obtain ⟨m, hm⟩ : ∃ m, L.length = m + 1 := ⟨L.length - 1, by omega⟩
  obtain ⟨r, hr, er⟩ := at_surj hP (show m < L.length by omega)
  refine ⟨r, hr, ?_⟩
  have hin := ent_lt (hL.2.2 r hr).1
  -- switched at the neighbours of r
  have hin2 := ent_lt (hg.2.2 r (by rw [hl]; exact hr)).1
  rw [hl] at hin2
  have hp := two_pos L.length
  have e1 : swL (swL L s) (ent (swL L s) r) = swL L (ent L r) := by
    rw [sw_sw hL hs hin2, swL_ent L s hr]
    unfold swMask
    by_cases hb : s / 2 ^ r % 2 = 1
    · rw [if_pos hb]
      have hx : ∀ (n : Fin 7) (s : Fin 64), s.val < 2 ^ n.val → s.val ^^^ less (2 ^ n.val - 1) s.val = 2 ^ n.val - 1 := by decide +kernel
      have hx := hx ⟨L.length, by omega⟩ ⟨s, by have := two_le h6; omega⟩ hs
      dsimp only at hx
      have e2 : s ^^^ (ent L r ^^^ less (2 ^ L.length - 1) s) = ent L r ^^^ (2 ^ L.length - 1) := by
        rw [← Nat.xor_assoc, Nat.xor_comm s, Nat.xor_assoc, hx]
      rw [e2]
      exact sw_all hL hin
    · rw [if_neg hb]
      have e2 : s ^^^ (ent L r ^^^ s) = ent L r := by rw [Nat.xor_comm (ent L r), ← Nat.xor_assoc, Nat.xor_self, Nat.zero_xor]
      rw [e2]
  obtain ⟨H, eH⟩ : ∃ H, H = swL L s := ⟨_, rfl⟩
  rw [← eH] at hg hl e1 hin2 e ⊢
  rw [← e1]
  have hgs := sw_graph hg (s := ent H r) (by rw [hl]; exact hin2)
  have hls := swL_length H (ent H r)
  have hPs : Names (swL H (ent H r)).length (swL H (ent H r)).length P := by rw [hls, hl]; exact hP
  have hPh : Names H.length H.length P := by rw [hl]; exact hP
  refine Nat.le_trans (least_le hPs) ?_
  rw [e]
  by_cases hex : ∃ x, x < m ∧ bt (namedL H P) x m = 1
  · obtain ⟨x, hx, hx1⟩ := hex
    refine last_none (named_graph hgs hPs) (named_graph hg hPh) (m := m) (by rw [namedL_length, hls, hl, hm]) (by rw [namedL_length, hl, hm]) (fun i hi => ?_) hx hx1
    obtain ⟨a, ha, ea⟩ := at_surj hP (show i < L.length by omega)
    have hne : a ≠ r := fun q => by rw [q, er] at ea; omega
    have h2 := named_at hPs (L := swL H (ent H r)) (a := a) (b := r) (by rw [hls, hl]; exact ha) (by rw [hls, hl]; exact hr)
    rw [ea, er] at h2
    rw [h2, sw_bt hg (by rw [hl]; exact hin2) (by rw [hl]; exact ha) (by rw [hl]; exact hr), if_neg hne]
    have h3 : ent H r / 2 ^ r % 2 = 0 := (hg.2.2 r (by rw [hl]; exact hr)).2.1
    have h4 : ent H r / 2 ^ a % 2 = bt H a r := (bt_sym hg (by rw [hl]; exact ha) (by rw [hl]; exact hr)).symm
    rw [h3, h4]
    omega
  · have h0 : ent H r = 0 := by
      refine Nat.eq_of_testBit_eq fun j => ?_
      rw [Nat.zero_testBit]
      cases eb : (ent H r).testBit j with
      | false => rfl
      | true =>
        exfalso
        have hb : bt H r j = 1 := (bt_tb H r j).2 eb
        have hj : j < L.length := bit_lt (m := L.length) hin2 hb
        have hne : j ≠ r := fun q => by
          rw [q] at hb
          have := (hg.2.2 r (by rw [hl]; exact hr)).2.1
          omega
        have h2 := named_at hPh (a := j) (b := r) (by rw [hl]; exact hj) (by rw [hl]; exact hr)
        rw [er, bt_sym hg (by rw [hl]; exact hj) (by rw [hl]; exact hr), hb] at h2
        have hjm : at_ P j ≠ m := fun q => hne (at_inj hP hj hr (by rw [q, er]))
        have hjl := at_name hP hj
        exact hex ⟨at_ P j, by omega, h2⟩
    rw [h0, sw_zero hg]
    exact Nat.le_refl _

def minF (f : Nat → Nat) (b : Nat) (l : List Nat) : Nat := l.foldl (fun b x => min b (f x)) b
theorem minF_nil (f : Nat → Nat) (b : Nat) : minF f b [] = b := rfl
theorem minF_snoc (f : Nat → Nat) (b : Nat) (l : List Nat) (x : Nat) : minF f b (l ++ [x]) = min (minF f b l) (f x) := by simp [minF]
theorem minF_le (f : Nat → Nat) (b : Nat) (l : List Nat) : minF f b l ≤ b ∧ ∀ x ∈ l, minF f b l ≤ f x := by
  induction l using snoc_ind with
  | h0 => exact ⟨Nat.le_refl _, fun x hx => by cases hx⟩
  | h1 l y ih =>
    rw [minF_snoc]
    refine ⟨Nat.le_trans (Nat.min_le_left _ _) ih.1, fun x hx => ?_⟩
    rcases List.mem_append.1 hx with h | h
    · exact Nat.le_trans (Nat.min_le_left _ _) (ih.2 x h)
    · rw [List.mem_singleton.1 h]; exact Nat.min_le_right _ _
theorem minF_ge (f : Nat → Nat) (b m : Nat) (l : List Nat) (hb : m ≤ b) (h : ∀ x ∈ l, m ≤ f x) : m ≤ minF f b l := by
  induction l using snoc_ind with
  | h0 => exact hb
  | h1 l y ih =>
    rw [minF_snoc]
    exact Nat.le_min.2 ⟨ih (fun x hx => h x (by simp [hx])), h y (by simp)⟩
/-- The least code of all graphs that come by switching: by the nodes. -/
def swLeast (L : List Int) : Nat := minF (fun v => leastL (swL L (ent L v))) (leastL L) (List.range L.length)
/-- The same by all sets without the last node. -/
theorem swLeast_eq {L : List Int} (hL : IsGraph L) : minF (fun s => leastL (swL L s)) (leastL L) (List.range (2 ^ (L.length - 1))) = swLeast L := by
  have h6 := hL.2.1
  have hn1 := hL.1
  have hp : 2 ^ L.length = 2 * 2 ^ (L.length - 1) := by
    obtain ⟨m, hm⟩ : ∃ m, L.length = m + 1 := ⟨L.length - 1, by omega⟩
    rw [hm, Nat.pow_succ, Nat.add_sub_cancel]; omega
  have h1 := minF_le (fun s => leastL (swL L s)) (leastL L) (List.range (2 ^ (L.length - 1)))
  have h2 := minF_le (fun v => leastL (swL L (ent L v))) (leastL L) (List.range L.length)
  refine Nat.le_antisymm (minF_ge _ _ _ _ h1.1 fun v hv => ?_) (minF_ge _ _ _ _ h2.1 fun s hs => ?_)
  · have hv := List.mem_range.1 hv
    have hin := ent_lt (hL.2.2 v hv).1
    by_cases hs : ent L v < 2 ^ (L.length - 1)
    · exact h1.2 _ (List.mem_range.2 hs)
    · show _ ≤ leastL (swL L (ent L v))
      rw [← sw_all hL hin]
      have hx : ∀ (n : Fin 7) (s : Fin 64), s.val < 2 ^ n.val → ¬ s.val < 2 ^ (n.val - 1) → s.val ^^^ (2 ^ n.val - 1) < 2 ^ (n.val - 1) := by decide +kernel
      exact h1.2 _ (List.mem_range.2 (hx ⟨L.length, by omega⟩ ⟨ent L v, by have := two_le h6; omega⟩ hin hs))
  · have hs := List.mem_range.1 hs
    obtain ⟨v, hv, hle⟩ := sw_least hL (s := s) (by omega)
    exact Nat.le_trans (h2.2 v (List.mem_range.2 hv)) hle
end Go.Proofs.YtamabhdbcmjbjaaDoor
