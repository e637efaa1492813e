/- What numbers of walks, closed walks, polynomials and threes say of nodes, edges and degrees. Plain mathematics, no condition but those named. -/
import Derived.Test.YtneglpklkmoclaaDoorBaseW
import Derived.Test.YtneglpklkmoclaaDoorNewtonTab
import Derived.Test.YtneglpklkmoclaaDoorLapMath
import Derived.Test.YtneglpklkmoclaaDoorPromDeg
import Derived.Test.YtneglpklkmoclaaDoorNamedOther
namespace Go.Proofs.YtneglpklkmoclaaDoor
open Go Go.RowKit
set_option linter.unusedVariables false
set_option maxRecDepth 100000

theorem sumN_none (n : Nat) : sumN (fun _ => 0) n = 0 := by
  induction n with
  | zero => rfl
  | succ n ih => rw [sumN, ih]
theorem sumN_swp (f : Nat → Nat → Nat) (n m : Nat) : sumN (fun i => sumN (fun j => f i j) m) n = sumN (fun j => sumN (fun i => f i j) n) m := by
  induction n with
  | zero => exact (sumN_none m).symm
  | succ n ih => rw [sumN, ih, ← sumN_add]; rfl
theorem sumN_mono {f g : Nat → Nat} {n : Nat} (h : ∀ i, i < n → f i ≤ g i) : sumN f n ≤ sumN g n := by
  induction n with
  | zero => exact Nat.le_refl _
  | succ n ih =>
    rw [sumN, sumN]
    have := ih (fun i hi => h i (by omega))
    have := h n (by omega)
    omega
theorem sumN_has (f : Nat → Nat) {v n : Nat} (hv : v < n) : f v ≤ sumN f n := by
  induction n with
  | zero => omega
  | succ n ih =>
    rw [sumN]
    by_cases h : v < n
    · have := ih h; omega
    · have : v = n := by omega
      subst this
      omega
theorem sumN_mulR (f : Nat → Nat) (c n : Nat) : sumN (fun i => f i * c) n = sumN f n * c := by
  rw [Nat.mul_comm, ← sumN_mul]
  exact sumN_congr fun i _ => Nat.mul_comm _ _
theorem dg_cnt {L : List Int} (hg : IsGraph L) {v : Nat} (hv : v < L.length) : dg L v = cnt (ent L v) := by
  rw [cnt_bits]
  unfold dg
  rw [← sumN_tail hg.2.1 (fun i hi => bt_far hg hv hi)]
  simp only [sumN, Nat.zero_add]
theorem dg_edges {L : List Int} (hg : IsGraph L) : sumN (dg L) L.length = 2 * edgesN L := by
  have h := deg_sum hg
  have h1 : (degL L L.length).sum = sumTo (fun i => ((cnt (ent L i) : Nat) : Int)) L.length := (sumTo_list _ _).symm
  have h2 : sumTo (fun i => ((cnt (ent L i) : Nat) : Int)) L.length = ((sumN (dg L) L.length : Nat) : Int) := by
    rw [sumN_int]
    exact sumTo_congr fun i hi => by rw [dg_cnt hg hi]
  omega
theorem wk_zero (L : List Int) (v w : Nat) : wk L 0 v w = if w = v then 1 else 0 := rfl
theorem walks_zero (L : List Int) : walksN L 0 = L.length := by
  unfold walksN
  rw [sumN_congr (g := fun _ => 1) (fun v hv => ?_), sumN_ones]
  have h := sumN_one (fun _ => 1) hv
  rw [← h]
  exact sumN_congr fun u _ => by rw [wk_zero, Nat.mul_one]
theorem walks_one (L : List Int) : walksN L 1 = sumN (dg L) L.length := sumN_congr fun v hv => sumN_congr fun u _ => wk_one L hv u
/-- Walks in two pieces. -/
theorem wk_add (L : List Int) (k l v w : Nat) (hw : w < L.length) : wk L (k + l) v w = sumN (fun u => wk L k v u * wk L l u w) L.length := by
  induction l generalizing w with
  | zero =>
    have h := sumN_one (fun u => wk L k v u) hw
    rw [Nat.add_zero, ← h]
    refine sumN_congr fun u _ => ?_
    rw [wk_zero, Nat.mul_comm]
    by_cases e : u = w
    · rw [if_pos e, if_pos e.symm]
    · rw [if_neg e, if_neg (fun x => e x.symm)]
  | succ l ih =>
    show sumN (fun a => wk L (k + l) v a * bt L a w) L.length = _
    have h1 : sumN (fun a => wk L (k + l) v a * bt L a w) L.length = sumN (fun a => sumN (fun u => wk L k v u * wk L l u a * bt L a w) L.length) L.length := sumN_congr fun a ha => by
      rw [ih a ha, ← sumN_mulR]
    rw [h1, sumN_swp]
    refine sumN_congr fun u _ => ?_
    show _ = wk L k v u * sumN (fun a => wk L l u a * bt L a w) L.length
    rw [← sumN_mul]
    exact sumN_congr fun a _ => by rw [Nat.mul_assoc]
theorem wk_sym {L : List Int} (hg : IsGraph L) (k : Nat) : ∀ v w, v < L.length → w < L.length → wk L k v w = wk L k w v := by
  induction k with
  | zero => intro v w _ _; rw [wk_zero, wk_zero]; by_cases e : w = v <;> simp [e]; exact fun x => absurd x.symm e
  | succ k ih =>
    intro v w hv hw
    rw [show k + 1 = 1 + k by omega, wk_add L 1 k v w hw, show 1 + k = k + 1 by omega]
    show _ = sumN (fun a => wk L k w a * bt L a v) L.length
    exact sumN_congr fun u hu => by rw [wk_one L hv, ih u w hu hw, bt_symD hg hv hu, Nat.mul_comm]
/-- All walks of a length from one node. -/
def wrow (L : List Int) (k v : Nat) : Nat := sumN (fun u => wk L k v u) L.length
theorem walks_rows (L : List Int) (k : Nat) : walksN L k = sumN (wrow L k) L.length := rfl
theorem walks_double {L : List Int} (hg : IsGraph L) (k : Nat) : walksN L (2 * k) = sumN (fun v => wrow L k v * wrow L k v) L.length := by
  rw [show 2 * k = k + k by omega]
  unfold walksN
  have h1 : ∀ v, v < L.length → sumN (fun w => wk L (k + k) v w) L.length = sumN (fun u => wk L k v u * wrow L k u) L.length := fun v hv => by
    rw [sumN_congr (fun w hw => wk_add L k k v w hw), sumN_swp]
    exact sumN_congr fun u _ => sumN_mul _ _ _
  rw [sumN_congr h1, sumN_swp]
  refine sumN_congr fun u hu => ?_
  rw [sumN_mulR]
  congr 1
  exact sumN_congr fun v hv => wk_sym hg k v u hv hu
theorem walks_two {L : List Int} (hg : IsGraph L) : walksN L 2 = sumN (fun v => dg L v * dg L v) L.length := by
  rw [show (2 : Nat) = 2 * 1 from rfl, walks_double hg 1]
  exact sumN_congr fun v hv => by rw [show wrow L 1 v = dg L v from sumN_congr fun u _ => wk_one L hv u]
/-! ### the sum of squares is at least the square of the sum -/
theorem two_ab (a r : Nat) : 2 * (a * r) ≤ a * a + r * r := by
  rcases Nat.le_total a r with h | h
  · obtain ⟨d, rfl⟩ : ∃ d, r = a + d := ⟨r - a, by omega⟩
    have e1 : a * (a + d) = a * a + a * d := Nat.mul_add _ _ _
    have e2 : (a + d) * (a + d) = a * a + a * d + (a * d + d * d) := by rw [Nat.mul_add, Nat.add_mul, Nat.add_mul, Nat.mul_comm d a]
    omega
  · obtain ⟨d, rfl⟩ : ∃ d, a = r + d := ⟨a - r, by omega⟩
    have e1 : (r + d) * r = r * r + r * d := by rw [Nat.add_mul, Nat.mul_comm d r]
    have e2 : (r + d) * (r + d) = r * r + r * d + (r * d + d * d) := by rw [Nat.mul_add, Nat.add_mul, Nat.add_mul, Nat.mul_comm d r]
    omega
theorem sum_ab (r : Nat → Nat) (a n : Nat) : 2 * (a * sumN r n) ≤ n * (a * a) + sumN (fun v => r v * r v) n := by
  induction n with
  | zero => simp [sumN]
  | succ n ih =>
    rw [sumN, sumN, Nat.mul_add a, Nat.succ_mul n (a * a)]
    have := two_ab a (r n)
    omega
theorem sum_square (r : Nat → Nat) (n : Nat) : sumN r n * sumN r n ≤ n * sumN (fun v => r v * r v) n := by
  induction n with
  | zero => simp [sumN]
  | succ n ih =>
    rw [sumN, sumN]
    have h1 := sum_ab r (r n) n
    have e1 : (sumN r n + r n) * (sumN r n + r n) = sumN r n * sumN r n + r n * sumN r n + (r n * sumN r n + r n * r n) := by rw [Nat.mul_add, Nat.add_mul, Nat.add_mul, Nat.mul_comm (sumN r n) (r n)]
    have e2 : (n + 1) * (sumN (fun v => r v * r v) n + r n * r n) = n * sumN (fun v => r v * r v) n + n * (r n * r n) + (sumN (fun v => r v * r v) n + r n * r n) := by rw [Nat.succ_mul n, Nat.mul_add n]
    rw [e1, e2]
    omega
theorem walks_square {L : List Int} (hg : IsGraph L) (k : Nat) : walksN L k * walksN L k ≤ walksN L (2 * k) * L.length := by
  rw [walks_double hg, walks_rows, Nat.mul_comm _ L.length]
  exact sum_square _ _
/-! ### closed walks -/
theorem closed_one {L : List Int} (hg : IsGraph L) : closedN L 1 = 0 := by
  unfold closedN
  rw [sumN_congr (g := fun _ => 0) (fun v hv => by rw [wk_one L hv, (hg.2.2 v hv).2.1]), sumN_none]
theorem closed_two {L : List Int} (hg : IsGraph L) : closedN L 2 = 2 * edgesN L := by
  rw [← dg_edges hg]
  unfold closedN
  refine sumN_congr fun v hv => ?_
  show sumN (fun a => wk L 1 v a * bt L a v) L.length = dg L v
  refine sumN_congr fun a ha => ?_
  rw [wk_one L hv, bt_symD hg ha hv]
  have h := bt_le L v a
  have h2 : bt L v a = 0 ∨ bt L v a = 1 := by omega
  rcases h2 with e | e <;> rw [e]
theorem closed_walks (L : List Int) (k : Nat) : closedN L k ≤ walksN L k := sumN_mono fun v hv => sumN_has (fun u => wk L k v u) hv
theorem pN_one {L : List Int} (hg : IsGraph L) : pN L 1 = 0 := by unfold pN; rw [closed_one hg]; rfl
theorem pN_two {L : List Int} (hg : IsGraph L) : pN L 2 = ((2 * edgesN L : Nat) : Int) := by unfold pN; rw [closed_two hg]
theorem eT_one (p : Nat → Int) : eT p 1 1 = p 1 := by
  show 0 + sg 0 * eN p 0 * p 1 = p 1
  rw [eN_zero]
  show 0 + 1 * 1 * p 1 = p 1
  omega
theorem eN_one {L : List Int} (hg : IsGraph L) : eN (pN L) 1 = 0 := by rw [eN_succ, eT_one, pN_one hg]; rfl
theorem eT_two {L : List Int} (hg : IsGraph L) : eT (pN L) 2 2 = -((2 * edgesN L : Nat) : Int) := by
  show 0 + sg 0 * eN (pN L) 1 * pN L 1 + sg 1 * eN (pN L) 0 * pN L 2 = _
  rw [eN_one hg, pN_one hg, pN_two hg, eN_zero]
  show 0 + 1 * 0 * 0 + -1 * 1 * ((2 * edgesN L : Nat) : Int) = _
  omega
theorem eN_two {L : List Int} (hg : IsGraph L) : eN (pN L) 2 = -((edgesN L : Nat) : Int) := by
  rw [eN_succ, eT_two hg, Int.neg_tdiv]
  have : ((2 * edgesN L : Nat) : Int).tdiv ((1 + 1 : Nat) : Int) = ((edgesN L : Nat) : Int) := by
    rw [Int.tdiv_eq_ediv_of_nonneg (by omega)]; omega
  omega
theorem eT_three {L : List Int} (hg : IsGraph L) : eT (pN L) 3 3 = pN L 3 := by
  show 0 + sg 0 * eN (pN L) 2 * pN L 1 + sg 1 * eN (pN L) 1 * pN L 2 + sg 2 * eN (pN L) 0 * pN L 3 = _
  rw [eN_one hg, pN_one hg, eN_zero, Int.mul_zero]
  show 0 + 0 + -1 * 0 * pN L 2 + 1 * 1 * pN L 3 = _
  rw [Int.mul_zero, Int.zero_mul]
  omega
theorem closed_six {L : List Int} (hg : IsGraph L) : closedN L 3 = 6 * threeN L := by
  have h1 := three_twice hg
  have h2 := sums_all hg 3 (by omega) (by omega)
  unfold Newt at h2
  rw [eT_three hg] at h2
  unfold pN at h2
  unfold threeN
  generalize (if 3 ≤ L.length then eN (pN L) 3 else 0) = z at h2
  omega
theorem eN_three {L : List Int} (hg : IsGraph L) : eN (pN L) 3 = ((2 * threeN L : Nat) : Int) := by
  rw [eN_succ, eT_three hg]
  unfold pN
  rw [closed_six hg, Int.tdiv_eq_ediv_of_nonneg (by omega)]
  omega
/-! ### polynomials -/
theorem poly_get (L : List Int) {t : Nat} (ht : t ≤ L.length) : (polyL L)[t]?.getD 0 = sg (L.length - t) * eN (pN L) (L.length - t) := by
  unfold polyL
  rw [pl_get _ _ _ ht, if_pos (by omega)]
theorem poly_len (L : List Int) : (polyL L).length = L.length + 1 := pl_length _ _ _
theorem poly_last (L : List Int) : (polyL L)[L.length]?.getD 0 = 1 := by rw [poly_get L (Nat.le_refl _), Nat.sub_self, eN_zero]; rfl
theorem poly_1 {L : List Int} (hg : IsGraph L) : (polyL L)[L.length - 1]?.getD 0 = 0 := by
  have h1 := hg.1
  rw [poly_get L (by omega), show L.length - (L.length - 1) = 1 by omega, eN_one hg, Int.mul_zero]
theorem poly_2 {L : List Int} (hg : IsGraph L) (h : 2 ≤ L.length) : (polyL L)[L.length - 2]?.getD 0 = -((edgesN L : Nat) : Int) := by
  rw [poly_get L (by omega), show L.length - (L.length - 2) = 2 by omega, eN_two hg]
  show 1 * _ = _
  omega
theorem poly_3 {L : List Int} (hg : IsGraph L) (h : 3 ≤ L.length) : (polyL L)[L.length - 3]?.getD 0 = -((2 * threeN L : Nat) : Int) := by
  rw [poly_get L (by omega), show L.length - (L.length - 3) = 3 by omega, eN_three hg]
  show -1 * _ = _
  omega
theorem poly_abs (L : List Int) (hL : L.length ≤ 6) {t : Nat} (ht : t ≤ L.length) : ((polyL L)[t]?.getD 0).natAbs ≤ 117649000000 := by
  rw [poly_get L ht, sg_abs]
  exact eN_small (pN_abs L hL) (by omega)
/-- The numbers of the polynomial times closed walks add up to 0. -/
theorem poly_walks {L : List Int} (hg : IsGraph L) : sumTo (fun i => (polyL L)[i]?.getD 0 * pN L i) (L.length + 1) = 0 := by
  have hN := sums_all hg L.length hg.1 hg.2.1
  have h6 := hg.2.1
  have h1 := hg.1
  unfold Newt at hN
  rw [if_pos (Nat.le_refl _)] at hN
  have hp0 : pN L 0 = (L.length : Int) := by unfold pN; rw [closedN_zero]
  have hc : sumTo (fun i => (polyL L)[i]?.getD 0 * pN L i) (L.length + 1) = sumTo (fun i => sg (L.length - i) * eN (pN L) (L.length - i) * pN L i) (L.length + 1) := sumTo_congr fun i hi => by rw [poly_get L (by omega)]
  rw [hc]
  generalize L.length = n at hN hp0 h6 h1
  generalize pN L = p at hN hp0
  have hn : n = 1 ∨ n = 2 ∨ n = 3 ∨ n = 4 ∨ n = 5 ∨ n = 6 := by omega
  have s0 : sg 0 = 1 := rfl
  have s1 : sg 1 = -1 := rfl
  have s2 : sg 2 = 1 := rfl
  have s3 : sg 3 = -1 := rfl
  have s4 : sg 4 = 1 := rfl
  have s5 : sg 5 = -1 := rfl
  have s6 : sg 6 = 1 := rfl
  rcases hn with rfl | rfl | rfl | rfl | rfl | rfl <;> simp only [eT, sumTo, Nat.reduceSub, Nat.reduceAdd, Nat.sub_zero, Nat.zero_add, Nat.sub_self, s0, s1, s2, s3, s4, s5, s6, hp0, Int.one_mul, Int.neg_mul] at hN ⊢ <;> omega
/-! ### threes of both graphs -/
def BothT (L : List Int) : Prop := closedN L 3 + closedN (otherL L L.length) 3 + 3 * sumN (fun v => dg L v * (L.length - 1 - dg L v)) L.length = L.length * (L.length - 1) * (L.length - 2)
theorem both_tame : Tame BothT := fun L P hg hP h => by
  have hO : Names (otherL L L.length).length (otherL L L.length).length P := by rw [otherL_length]; exact hP
  unfold BothT at h ⊢
  rw [← named_other hg hP, closed_named hP, closed_named hO, namedL_length, ← sumN_names hP] at h
  rw [← h]
  congr 2
  exact sumN_congr fun v hv => by rw [dg_named hP hv]
def okB (n c : Nat) : Bool := decide (closedP (codeG n c) 3 + closedP (otherL (codeG n c) n) 3 + 3 * sumN (fun v => dg (codeG n c) v * (n - 1 - dg (codeG n c) v)) n = n * (n - 1) * (n - 2))
def okBP (F : List (Nat × List Nat)) : Bool := F.all fun e => (List.range 32).all fun s => okB 6 (e.1 + 1024 * s)
theorem okB1 : ((List.range 1).all (okB 1)) = true := by decide +kernel
theorem okB2 : ((List.range 2).all (okB 2)) = true := by decide +kernel
theorem okB3 : ((List.range 8).all (okB 3)) = true := by decide +kernel
theorem okB4 : ((List.range 64).all (okB 4)) = true := by decide +kernel
theorem okB5 : (firsts5.all fun e => okB 5 e.1) = true := by decide +kernel
theorem okBP0 : okBP ((firsts5.drop 0).take 12) = true := by decide +kernel
theorem okBP1 : okBP ((firsts5.drop 12).take 12) = true := by decide +kernel
theorem okBP2 : okBP ((firsts5.drop 24).take 12) = true := by decide +kernel
theorem firsts5_thirds : firsts5 = (firsts5.drop 0).take 12 ++ ((firsts5.drop 12).take 12 ++ (firsts5.drop 24).take 12) := by decide +kernel
theorem okB6 {e : Nat × List Nat} (he : e ∈ firsts5) {s : Nat} (hs : s < 32) : okB 6 (e.1 + 1024 * s) = true := by
  rw [firsts5_thirds, List.mem_append, List.mem_append] at he
  rcases he with he | he | he
  · exact List.all_eq_true.1 (List.all_eq_true.1 okBP0 e he) s (List.mem_range.2 hs)
  · exact List.all_eq_true.1 (List.all_eq_true.1 okBP1 e he) s (List.mem_range.2 hs)
  · exact List.all_eq_true.1 (List.all_eq_true.1 okBP2 e he) s (List.mem_range.2 hs)
theorem okB_both {n c : Nat} (hn : n ≤ 6) (h : okB n c = true) : BothT (codeG n c) := by
  unfold BothT
  rw [codeG_length, ← closedP_is _ (by rw [codeG_length]; exact hn) 3 (by omega), ← closedP_is _ (by rw [otherL_length]; exact hn) 3 (by omega)]
  exact of_decide_eq_true h
theorem both_all {L : List Int} (hg : IsGraph L) : BothT L := by
  refine by_classes both_tame (fun n h1 h4 c hc => ?_) (fun e he => okB_both (by omega) (List.all_eq_true.1 okB5 e he)) (fun e he s hs => okB_both (by omega) (okB6 he hs)) hg
  have hn : n = 1 ∨ n = 2 ∨ n = 3 ∨ n = 4 := by omega
  rcases hn with rfl | rfl | rfl | rfl
  · exact okB_both (by omega) (List.all_eq_true.1 okB1 c (List.mem_range.2 hc))
  · exact okB_both (by omega) (List.all_eq_true.1 okB2 c (List.mem_range.2 hc))
  · exact okB_both (by omega) (List.all_eq_true.1 okB3 c (List.mem_range.2 hc))
  · exact okB_both (by omega) (List.all_eq_true.1 okB4 c (List.mem_range.2 hc))
theorem three_both {L : List Int} (hg : IsGraph L) : 6 * threeN L + 6 * threeN (otherL L L.length) + 3 * sumN (fun v => dg L v * (L.length - 1 - dg L v)) L.length = L.length * (L.length - 1) * (L.length - 2) := by
  have h := both_all hg
  unfold BothT at h
  rw [closed_six hg, closed_six (other_graph hg)] at h
  exact h
/-! ### what the walk over the polynomial adds -/
def polyTerm (L : List Int) (i : Nat) : Int := (polyL L)[i]?.getD 0 * ((closedN L i : Nat) : Int)
theorem polyTerm_abs {L : List Int} (hg : IsGraph L) {i : Nat} (hi : i ≤ L.length) : (polyTerm L i).natAbs ≤ 40000000000000000 := by
  have h6 := hg.2.1
  unfold polyTerm
  rw [Int.natAbs_mul, Int.natAbs_natCast]
  have h1 := poly_abs L h6 hi
  have h2 : closedN L i ≤ 6 * 6 ^ 6 := Nat.le_trans (sumN_le fun v _ => wk_le L h6 i v v) (Nat.mul_le_mul h6 (Nat.pow_le_pow_right (by omega) (by omega)))
  exact Nat.le_trans (Nat.mul_le_mul h1 h2) (by decide)
theorem polyPart_abs {L : List Int} (hg : IsGraph L) : ∀ k, k ≤ L.length + 1 → (sumTo (polyTerm L) k).natAbs ≤ k * 40000000000000000
  | 0, _ => by simp [sumTo]
  | k + 1, h => by
    have h1 := polyPart_abs hg k (by omega)
    have h2 := polyTerm_abs hg (show k ≤ L.length by omega)
    rw [sumTo, Nat.succ_mul]
    omega
theorem polyTerm_all {L : List Int} (hg : IsGraph L) : sumTo (polyTerm L) (L.length + 1) = 0 := poly_walks hg
/-! ### degrees in loops -/
theorem degL_get (L : List Int) {i : Nat} (hi : i < L.length) : (degL L L.length)[i]?.getD 0 = ((cnt (ent L i) : Nat) : Int) := by simp [degL, hi]
theorem degL_dg {L : List Int} (hg : IsGraph L) {i : Nat} (hi : i < L.length) : (degL L L.length)[i]?.getD 0 = ((dg L i : Nat) : Int) := by rw [degL_get L hi, dg_cnt hg hi]
theorem dg_lt {L : List Int} (hg : IsGraph L) {v : Nat} (hv : v < L.length) : dg L v ≤ L.length - 1 := by
  have h := deg_other hg hv
  have := dg_cnt hg hv
  omega
theorem sq_part {L : List Int} (hg : IsGraph L) (f : Nat → Nat) (hf : ∀ v, v < L.length → f v ≤ 25) {k : Nat} (hk : k ≤ L.length) : sumN f k ≤ 150 := by
  have h6 := hg.2.1
  have h := sumN_le (f := f) (n := k) (b := 25) (fun v hv => hf v (by omega))
  omega
end Go.Proofs.YtneglpklkmoclaaDoor
