/- The edges of all cards: each edge is missing on just two of them. Plain mathematics, no condition. -/
import Derived.Test.YtkngijkhhonikaaDoorBaseG
namespace Go.Proofs.YtkngijkhhonikaaDoor
open Go Go.RowKit
set_option linter.unusedVariables false
set_option maxRecDepth 100000

def tot (f : Nat → Nat) : Nat → Nat
  | 0 => 0
  | k + 1 => tot f k + f k
theorem tot_congr {f g : Nat → Nat} (n : Nat) (h : ∀ k, k < n → f k = g k) : tot f n = tot g n := by
  induction n with
  | zero => rfl
  | succ n ih => show tot f n + f n = tot g n + g n; rw [ih (fun k hk => h k (by omega)), h n (by omega)]
theorem tot_add (f g : Nat → Nat) (n : Nat) : tot (fun k => f k + g k) n = tot f n + tot g n := by
  induction n with
  | zero => rfl
  | succ n ih => show tot _ n + (f n + g n) = (tot f n + f n) + (tot g n + g n); rw [ih]; omega
theorem tot_zero (n : Nat) : tot (fun _ => 0) n = 0 := by
  induction n with
  | zero => rfl
  | succ n ih => show tot _ n + 0 = 0; rw [ih]
/-- A pair without a node. -/
def away (v : Nat) (e : Nat × Nat) : Bool := e.1 != v && e.2 != v
theorem away_tot : ∀ n : Fin 7, ∀ b : Fin 6, ∀ a : Fin 6, a.val < b.val → b.val < n.val → tot (fun v => if away v (a.val, b.val) = true then 1 else 0) n.val = n.val - 2 := by decide +kernel
theorem drop_rows : ∀ n : Fin 7, ∀ v : Fin 6, v.val < n.val → (rows (n.val - 1)).map (fun e => (at_ (nodesL (dropSet n.val v.val)) e.1, at_ (nodesL (dropSet n.val v.val)) e.2)) = (rows n.val).filter (away v.val) := by decide +kernel
theorem sum_away {n : Nat} (hn : n ≤ 6) (b : Nat × Nat → Bool) : ∀ ps : List (Nat × Nat), (∀ e ∈ ps, e ∈ rows n) → tot (fun v => ((ps.filter (away v)).filter b).length) n = (n - 2) * (ps.filter b).length
  | [], _ => by
    have h : tot (fun v => ((([] : List (Nat × Nat)).filter (away v)).filter b).length) n = tot (fun _ => 0) n := rfl
    rw [h, tot_zero]; simp
  | e :: ps, h => by
    have ih := sum_away hn b ps (fun x hx => h x (List.mem_cons_of_mem _ hx))
    have he := rows_mem n e (h e List.mem_cons_self)
    have ha := away_tot ⟨n, by omega⟩ ⟨e.2, by omega⟩ ⟨e.1, by omega⟩ he.1 he.2
    dsimp only at ha
    by_cases hb : b e = true
    · have h1 : tot (fun v => (((e :: ps).filter (away v)).filter b).length) n = tot (fun v => (if away v (e.1, e.2) = true then 1 else 0) + ((ps.filter (away v)).filter b).length) n := by
        refine tot_congr n fun v _ => ?_
        by_cases hv : away v e = true
        · have hv' : away v (e.1, e.2) = true := hv
          rw [List.filter_cons, if_pos hv, List.filter_cons, if_pos hb, List.length_cons, if_pos hv']
          omega
        · have hv' : ¬ away v (e.1, e.2) = true := hv
          rw [List.filter_cons, if_neg hv, if_neg hv']
          omega
      rw [h1, tot_add, ha, ih, List.filter_cons, if_pos hb, List.length_cons, Nat.mul_add, Nat.mul_one]
      omega
    · have h1 : tot (fun v => (((e :: ps).filter (away v)).filter b).length) n = tot (fun v => ((ps.filter (away v)).filter b).length) n := by
        refine tot_congr n fun v _ => ?_
        by_cases hv : away v e = true
        · rw [List.filter_cons, if_pos hv, List.filter_cons, if_neg hb]
        · rw [List.filter_cons, if_neg hv]
      rw [h1, ih, List.filter_cons, if_neg hb]
theorem drop_edges {L : List Int} (hg : IsGraph L) {v : Nat} (hv : v < L.length) : edgesN (dropG L v) = (((rows L.length).filter (away v)).filter (fun e => bt L e.1 e.2 == 1)).length := by
  have h6 := hg.2.1
  have hl := dropG_length hg hv
  have hsl := dropSet_lt h6 hv
  have hdl := dropSet_len h6 hv
  rw [edges_in (by rw [hl]; omega), hl]
  have hr := drop_rows ⟨L.length, by omega⟩ ⟨v, by omega⟩ hv
  dsimp only at hr
  rw [← hr, List.filter_map, List.length_map]
  unfold edgesIn
  congr 1
  refine List.filter_congr fun p hp => ?_
  have hpm := rows_mem _ p hp
  have h1 := partG_bt hg hsl p.1 p.2
  rw [hdl] at h1
  show (bt (partG L (dropSet L.length v)) p.1 p.2 == 1) = (bt L (at_ (nodesL (dropSet L.length v)) p.1) (at_ (nodesL (dropSet L.length v)) p.2) == 1)
  rw [Bool.eq_iff_iff, beq_iff_eq, beq_iff_eq, h1]
  constructor
  · exact fun h => h.2.2
  · exact fun h => ⟨by omega, by omega, h⟩
theorem cards_tot {L : List Int} (hg : IsGraph L) : tot (fun v => edgesN (dropG L v)) L.length = (L.length - 2) * edgesN L := by
  rw [tot_congr L.length (fun v hv => drop_edges hg hv), sum_away hg.2.1 _ _ (fun e he => he), edges_in hg.2.1]
  rfl
/-- A code has as many ones as its graph edges. -/
theorem least_size {L : List Int} (hg : IsGraph L) : pcf 15 (leastL L) = edgesN L := by
  obtain ⟨P, hP, e⟩ := least_is hg
  rw [e, ← edges_named hg hP]
  rfl

def sumE (xs : List Int) : Nat := (xs.map fun x => pcf 15 x.toNat).foldr (· + ·) 0
theorem sumE_append (xs ys : List Int) : sumE (xs ++ ys) = sumE xs + sumE ys := by
  induction xs with
  | nil => simp [sumE]
  | cons x xs ih => show pcf 15 x.toNat + sumE (xs ++ ys) = (pcf 15 x.toNat + sumE xs) + sumE ys; rw [ih]; omega
theorem sumE_perm {xs ys : List Int} (h : xs.Perm ys) : sumE xs = sumE ys := by
  induction h with
  | nil => rfl
  | cons x _ ih => show pcf 15 x.toNat + sumE _ = pcf 15 x.toNat + sumE _; rw [ih]
  | swap x y l => show pcf 15 y.toNat + (pcf 15 x.toNat + sumE l) = pcf 15 x.toNat + (pcf 15 y.toNat + sumE l); omega
  | trans _ _ h1 h2 => exact h1.trans h2
theorem dsumTo_eq (xs : List Int) (k : Nat) (hk : k ≤ xs.length) : dsumTo xs k = sumE (xs.take k) := by
  induction k with
  | zero => rfl
  | succ k ih =>
    show dsumTo xs k + pcf 15 (cardN xs k) = _
    rw [ih (by omega), List.take_succ_eq_append_getElem (by omega), sumE_append]
    have e : cardN xs k = (xs[k]'(by omega)).toNat := by unfold cardN; rw [List.getElem?_eq_getElem (by omega)]; rfl
    rw [e]
    rfl
theorem sumE_deckTo {L : List Int} (k : Nat) : sumE (deckTo L k) = tot (fun v => pcf 15 (cardOf L v)) k := by
  induction k with
  | zero => rfl
  | succ k ih => rw [deckTo_succ, sumE_append, ih]; show _ + (pcf 15 ((cardOf L k : Nat) : Int).toNat + 0) = _; rw [Int.toNat_natCast]; rfl
theorem deck_sum {L : List Int} (hg : IsGraph L) (h2 : 2 ≤ L.length) : dsumTo (deckL L) L.length = (L.length - 2) * edgesN L := by
  have hl := deckL_length L
  rw [dsumTo_eq (deckL L) L.length (by omega), List.take_of_length_le (by omega)]
  unfold deckL
  rw [sumE_perm (sortL_perm _), sumE_deckTo, ← cards_tot hg]
  exact tot_congr _ fun v hv => least_size (dropG_graph hg h2 hv)
theorem rows_codes : ∀ n : Fin 7, 2 ^ (rows n.val).length = codes n.val := by decide +kernel
theorem deck_mem {L : List Int} (hg : IsGraph L) (h2 : 2 ≤ L.length) : ∀ x ∈ deckL L, ∃ c : Nat, x = (c : Int) ∧ c < codes (L.length - 1) := fun x hx => by
  have h1 := (sortL_perm (deckTo L L.length)).mem_iff.1 hx
  unfold deckTo ints at h1
  rw [List.map_map] at h1
  obtain ⟨v, hv, rfl⟩ := List.mem_map.1 h1
  have hv' := List.mem_range.1 hv
  refine ⟨cardOf L v, rfl, ?_⟩
  have h3 := least_lt (dropG_graph hg h2 hv')
  have h6 := hg.2.1
  rw [dropG_length hg hv'] at h3
  have h4 := rows_codes ⟨L.length - 1, by omega⟩
  dsimp only at h4
  rw [h4] at h3
  exact h3
theorem deck_isDeck {L : List Int} (hg : IsGraph L) (h3 : 3 ≤ L.length) : IsDeck L.length (deckL L) := by
  refine ⟨h3, hg.2.1, deckL_length L, fun k hk => ?_⟩
  have hk' : k < (deckL L).length := by rw [deckL_length]; exact hk
  obtain ⟨c, hc, hl⟩ := deck_mem hg (by omega) _ (List.getElem_mem hk')
  unfold CardAt
  rw [List.getElem?_eq_getElem hk', Option.getD_some, hc]
  omega
theorem deck_E {L : List Int} (hg : IsGraph L) (h3 : 3 ≤ L.length) : deckE L.length (deckL L) = (edgesN L, true) := by
  unfold deckE
  rw [deck_sum hg (by omega), Nat.mul_mod_right, if_pos rfl, Nat.mul_div_cancel_left _ (by omega)]
end Go.Proofs.YtkngijkhhonikaaDoor
