/- Plain mathematics of sets of three nodes: closed walks of length 3 are twice the common neighbours over edges. -/
import Derived.Test.YtamabhdbcmjbjaaDoorWalkMath
import Derived.Test.YtamabhdbcmjbjaaDoorCntDef
import Derived.Test.YtamabhdbcmjbjaaDoorBaseA
namespace Go.Proofs.YtamabhdbcmjbjaaDoor
open Go Go.RowKit
set_option linter.unusedVariables false
set_option maxRecDepth 100000

theorem sumN_mul (f : Nat → Nat) (c n : Nat) : sumN (fun i => c * f i) n = c * sumN f n := by
  induction n with
  | zero => rfl
  | succ n ih => rw [sumN, sumN, ih, Nat.mul_add]
theorem sumN_one (f : Nat → Nat) {v n : Nat} (hv : v < n) : sumN (fun i => (if i = v then 1 else 0) * f i) n = f v := by
  induction n with
  | zero => omega
  | succ n ih =>
    rw [sumN]
    by_cases h : v < n
    · rw [ih h, if_neg (by omega), Nat.zero_mul, Nat.add_zero]
    · have e : n = v := by omega
      subst e
      rw [if_pos rfl, Nat.one_mul]
      have h0 : sumN (fun i => (if i = n then 1 else 0) * f i) n = 0 := by
        rw [sumN_congr (g := fun _ => 0) (fun i hi => by rw [if_neg (by omega), Nat.zero_mul])]
        have := sumN_le (f := fun _ => 0) (n := n) (b := 0) (fun i _ => Nat.le_refl 0)
        omega
      rw [h0, Nat.zero_add]
theorem sumN_add (f g : Nat → Nat) (n : Nat) : sumN (fun i => f i + g i) n = sumN f n + sumN g n := by
  induction n with
  | zero => rfl
  | succ n ih => rw [sumN, sumN, sumN, ih]; omega
/-- A symmetric table, 0 on its diagonal: all of it is twice one half. -/
theorem sum_sym (f : Nat → Nat → Nat) (n : Nat) (hs : ∀ i j, i < n → j < n → f i j = f j i) (hd : ∀ i, i < n → f i i = 0) :
    sumN (fun i => sumN (fun j => f i j) n) n = 2 * sumN (fun b => sumN (fun a => f a b) b) n := by
  induction n with
  | zero => rfl
  | succ n ih =>
    have h1 : sumN (fun i => sumN (fun j => f i j) (n + 1)) n = sumN (fun i => sumN (fun j => f i j) n) n + sumN (fun i => f i n) n := by
      rw [← sumN_add]; rfl
    have h2 : sumN (fun j => f n j) n = sumN (fun i => f i n) n := sumN_congr fun i hi => hs n i (by omega) (by omega)
    have h3 := hd n (by omega)
    show sumN (fun i => sumN (fun j => f i j) (n + 1)) n + (sumN (fun j => f n j) n + f n n) = 2 * (sumN (fun b => sumN (fun a => f a b) b) n + sumN (fun a => f a n) n)
    rw [h1, h2, h3, ih (fun i j hi hj => hs i j (by omega) (by omega)) (fun i hi => hd i (by omega))]
    omega
/-- The common neighbours of two nodes. -/
def common (L : List Int) (a b : Nat) : Nat := sumN (fun x => bt L a x * bt L b x) L.length
def seenN (L : List Int) (ps : List (Nat × Nat)) : Nat := ps.foldl (fun s p => s + cnt (ent L p.1 &&& ent L p.2)) 0
theorem seenN_snoc (L : List Int) (ps : List (Nat × Nat)) (p : Nat × Nat) : seenN L (ps ++ [p]) = seenN L ps + cnt (ent L p.1 &&& ent L p.2) := by simp [seenN]
theorem cnt_and : ∀ x y : Fin 64, cnt (x.val &&& y.val) = (x.val / 2 ^ 0 % 2) * (y.val / 2 ^ 0 % 2) + (x.val / 2 ^ 1 % 2) * (y.val / 2 ^ 1 % 2) + (x.val / 2 ^ 2 % 2) * (y.val / 2 ^ 2 % 2) + (x.val / 2 ^ 3 % 2) * (y.val / 2 ^ 3 % 2) + (x.val / 2 ^ 4 % 2) * (y.val / 2 ^ 4 % 2) + (x.val / 2 ^ 5 % 2) * (y.val / 2 ^ 5 % 2) := by decide +kernel
theorem sumN_tail {f : Nat → Nat} {n m : Nat} (hn : n ≤ m) (h : ∀ i, n ≤ i → f i = 0) : sumN f m = sumN f n := by
  induction m with
  | zero => have : n = 0 := by omega
            subst this; rfl
  | succ m ih =>
    rcases Nat.eq_or_lt_of_le hn with e | e
    · rw [e]
    · rw [sumN, ih (by omega), h m (by omega), Nat.add_zero]
theorem bt_high {L : List Int} (hg : IsGraph L) {a x : Nat} (ha : a < L.length) (hx : L.length ≤ x) : bt L a x = 0 := by
  have h1 := ent_lt (hg.2.2 a ha).1
  have h2 := pow_le L.length x hx
  unfold bt
  rw [Nat.div_eq_of_lt (by omega)]
theorem cnt_common {L : List Int} (hg : IsGraph L) {a b : Nat} (ha : a < L.length) (hb : b < L.length) : cnt (ent L a &&& ent L b) = common L a b := by
  have h1 := ent_lt (hg.2.2 a ha).1
  have h2 := ent_lt (hg.2.2 b hb).1
  have h64 := two_le hg.2.1
  have h := cnt_and ⟨ent L a, by omega⟩ ⟨ent L b, by omega⟩
  dsimp only at h
  rw [h]
  unfold common
  rw [← sumN_tail hg.2.1 (f := fun x => bt L a x * bt L b x) (fun i hi => by rw [bt_high hg ha hi, Nat.zero_mul])]
  simp only [sumN, bt, Nat.zero_add]
theorem wk_one (L : List Int) {v : Nat} (hv : v < L.length) (b : Nat) : wk L 1 v b = bt L v b := by
  show sumN (fun a => (if a = v then 1 else 0) * bt L a b) L.length = _
  exact sumN_one (fun a => bt L a b) hv
theorem closed_three {L : List Int} (hg : IsGraph L) : closedN L 3 = sumN (fun v => sumN (fun a => bt L a v * common L v a) L.length) L.length := by
  have bsym : ∀ {i j : Nat}, i < L.length → j < L.length → bt L i j = bt L j i := fun {i j} hi hj => by
    rcases Nat.lt_trichotomy i j with h | h | h
    · exact ((hg.2.2 j hj).2.2 i h).symm
    · rw [h]
    · exact (hg.2.2 i hi).2.2 j h
  unfold closedN
  refine sumN_congr fun v hv => ?_
  show sumN (fun a => wk L 2 v a * bt L a v) L.length = _
  refine sumN_congr fun a ha => ?_
  rw [Nat.mul_comm]
  congr 1
  show sumN (fun b => wk L 1 v b * bt L b a) L.length = _
  exact sumN_congr fun b hb => by rw [wk_one L hv, bsym hb ha]
theorem rows_succ (n : Nat) : rows (n + 1) = rows n ++ (List.range n).map fun a => (a, n) := (upto_end n).symm
def pairsN (f : Nat → Nat → Nat) (ps : List (Nat × Nat)) : Nat := ps.foldl (fun s p => s + f p.1 p.2) 0
theorem pairsN_snoc (f : Nat → Nat → Nat) (ps : List (Nat × Nat)) (p : Nat × Nat) : pairsN f (ps ++ [p]) = pairsN f ps + f p.1 p.2 := by simp [pairsN]
theorem pairsN_line (f : Nat → Nat → Nat) (ps : List (Nat × Nat)) (n k : Nat) : pairsN f (ps ++ (List.range k).map fun a => (a, n)) = pairsN f ps + sumN (fun a => f a n) k := by
  induction k with
  | zero => simp [sumN]
  | succ k ih => rw [List.range_succ, List.map_append, ← List.append_assoc, List.map_singleton, pairsN_snoc, ih, sumN]; exact Nat.add_assoc _ _ _
theorem pairsN_rows (f : Nat → Nat → Nat) (n : Nat) : pairsN f (rows n) = sumN (fun b => sumN (fun a => f a b) b) n := by
  induction n with
  | zero => rfl
  | succ n ih => rw [rows_succ, pairsN_line, ih, sumN]
theorem cnt_le (x : Nat) : cnt x ≤ 6 := by unfold cnt; omega
theorem seenN_le (L : List Int) (ps : List (Nat × Nat)) : seenN L ps ≤ 6 * ps.length := by
  induction ps using snoc_ind with
  | h0 => simp [seenN]
  | h1 l x ih =>
    have h := cnt_le (ent L x.1 &&& ent L x.2)
    rw [seenN_snoc, List.length_append, List.length_singleton, Nat.mul_add]
    omega
theorem seenN_edges {L : List Int} (hg : IsGraph L) : ∀ ps : List (Nat × Nat), (∀ p ∈ ps, p.1 < L.length ∧ p.2 < L.length) → seenN L (edgesIn L ps) = pairsN (fun a b => bt L a b * common L a b) ps := by
  intro ps
  induction ps using snoc_ind with
  | h0 => intro _; rfl
  | h1 l x ih =>
    intro h
    have h1 := h x (by simp)
    rw [pairsN_snoc, ← ih (fun p hp => h p (by simp [hp]))]
    unfold edgesIn
    rw [List.filter_append]
    by_cases hb : bt L x.1 x.2 = 1
    · have e : [x].filter (fun p => bt L p.1 p.2 == 1) = [x] := by simp [hb]
      rw [e, seenN_snoc, hb, Nat.one_mul, cnt_common hg h1.1 h1.2]
    · have h0 : bt L x.1 x.2 = 0 := by have := bt_le L x.1 x.2; omega
      have e : [x].filter (fun p => bt L p.1 p.2 == 1) = [] := by simp [h0]
      rw [e, List.append_nil, h0, Nat.zero_mul, Nat.add_zero]
/-- Closed walks of length 3 are twice what edges see. -/
theorem three_twice {L : List Int} (hg : IsGraph L) : closedN L 3 = 2 * seenN L (edgesIn L (rows L.length)) := by
  rw [closed_three hg, seenN_edges hg _ (fun p hp => by have h := rows_mem _ p hp; exact ⟨Nat.lt_trans h.1 h.2, h.2⟩), pairsN_rows]
  have bsym : ∀ {i j : Nat}, i < L.length → j < L.length → bt L i j = bt L j i := fun {i j} hi hj => by
    rcases Nat.lt_trichotomy i j with h | h | h
    · exact ((hg.2.2 j hj).2.2 i h).symm
    · rw [h]
    · exact (hg.2.2 i hi).2.2 j h
  have csym : ∀ i j, common L i j = common L j i := fun i j => sumN_congr fun x _ => Nat.mul_comm _ _
  rw [← sum_sym (fun a b => bt L a b * common L a b) L.length (fun i j hi hj => by rw [bsym hi hj, csym i j]) (fun i hi => by rw [(hg.2.2 i hi).2.1, Nat.zero_mul])]
  exact sumN_congr fun v hv => sumN_congr fun a ha => by rw [bsym ha hv]
/-- The number of sets of three nodes, as both tell it. -/
def threeN (L : List Int) : Nat := seenN L (edgesIn L (rows L.length)) / 3
theorem three_six {L : List Int} (hg : IsGraph L) : closedN L 3 / 6 = threeN L := by
  rw [three_twice hg]
  unfold threeN
  omega
end Go.Proofs.YtamabhdbcmjbjaaDoor
