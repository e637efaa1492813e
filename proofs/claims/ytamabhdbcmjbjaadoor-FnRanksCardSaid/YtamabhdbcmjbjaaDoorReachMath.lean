/- The nodes to which ways lead from the nodes of a set: the program's way ends at the least closed set. Plain mathematics. -/
import Derived.Test.YtamabhdbcmjbjaaDoorBaseA
namespace Go.Proofs.YtamabhdbcmjbjaaDoor
open Go Go.RowKit
set_option linter.unusedVariables false

def reaches (L : List Int) (s0 : Nat) : Nat → Nat
  | 0 => s0
  | k + 1 => turn L (reaches L s0 k) L.length
def reachN (L : List Int) (s0 : Nat) : Nat := reaches L s0 L.length
theorem reaches_lt {L : List Int} {s0 m : Nat} (hm : s0 < 2 ^ m) (hL : ∀ v, v < L.length → ent L v < 2 ^ m) (k : Nat) : reaches L s0 k < 2 ^ m := by
  induction k with
  | zero => exact hm
  | succ k ih => exact turn_lt ih hL _ (Nat.le_refl _)
theorem reaches_has (L : List Int) (s0 k : Nat) : Sub s0 (reaches L s0 k) := by
  induction k with
  | zero => exact Sub.refl _
  | succ k ih => exact ih.trans (turn_up _ _ _)
theorem reaches_in {L : List Int} {s0 t : Nat} (h1 : Sub s0 t) (hc : Closed L t) (k : Nat) : Sub (reaches L s0 k) t := by
  induction k with
  | zero => exact h1
  | succ k ih => exact turn_in ih hc _ (Nat.le_refl _)
theorem reaches_grow {L : List Int} {s0 v : Nat} (hv : v < L.length) (hb : s0.testBit v = true) (hs : s0 < 2 ^ L.length) (hL : ∀ v, v < L.length → ent L v < 2 ^ L.length) (k : Nat) : Closed L (reaches L s0 k) ∨ k + 1 ≤ cntT L.length (reaches L s0 k) := by
  induction k with
  | zero =>
    refine .inr ?_
    have := cntT_lt L.length (s := 0) (t := s0) (fun j hj => by simp at hj) v hv hb (by simp)
    show 0 + 1 ≤ cntT L.length s0
    omega
  | succ k ih =>
    have hup := turn_up L (reaches L s0 k) L.length
    by_cases hsame : turn L (reaches L s0 k) L.length = reaches L s0 k
    · refine .inl ?_
      show Closed L (turn L (reaches L s0 k) L.length)
      rw [hsame]
      exact turn_closed hsame
    · rcases ih with h | h
      · exact absurd (Sub.eq (turn_in (Sub.refl _) h _ (Nat.le_refl _)) hup) hsame
      · refine .inr ?_
        have hex : ∃ j, (turn L (reaches L s0 k) L.length).testBit j = true ∧ ¬ (reaches L s0 k).testBit j = true := by
          refine Classical.byContradiction fun hno => hsame (Sub.eq (fun j hj => ?_) hup)
          refine Classical.byContradiction fun h2 => hno ⟨j, hj, h2⟩
        obtain ⟨j, j1, j2⟩ := hex
        have hj : j < L.length := by
          refine Nat.lt_of_not_le fun hle => ?_
          have h3 := reaches_lt (m := L.length) hs hL (k + 1)
          have h4 : (reaches L s0 (k + 1)).testBit j = false := Nat.testBit_lt_two_pow (Nat.lt_of_lt_of_le h3 (Nat.pow_le_pow_right (n := 2) (by omega) hle))
          rw [show reaches L s0 (k + 1) = turn L (reaches L s0 k) L.length from rfl, j1] at h4
          cases h4
        have := cntT_lt L.length hup j hj j1 j2
        show k + 1 + 1 ≤ cntT L.length (turn L (reaches L s0 k) L.length)
        omega
theorem reaches_closed {L : List Int} {s0 v : Nat} (hv : v < L.length) (hb : s0.testBit v = true) (hs : s0 < 2 ^ L.length) (hL : ∀ v, v < L.length → ent L v < 2 ^ L.length) : Closed L (reachN L s0) := by
  rcases reaches_grow hv hb hs hL L.length with h | h
  · exact h
  · have := cntT_le_n L.length (reaches L s0 L.length)
    omega
/-- The set that the program ends at. -/
theorem reachedS_eq {L : List Int} {s0 v : Nat} (hv : v < L.length) (hb : s0.testBit v = true) (hs0 : s0 < 2 ^ L.length) (h6 : L.length ≤ 6) (hL : ∀ v, v < L.length → ent L v < 2 ^ L.length) {s : Nat} (h1 : Sub s0 s) (hin : ∀ t, Sub s0 t → Closed L t → Sub s t) (hend : wide L s (nodesL s) = s) : s = reachN L s0 := by
  have hc : Closed L s := fun v hv hb => by
    have hm : v ∈ nodesL s := nodes_mem.2 ⟨by omega, by rw [Nat.testBit_eq_decide_div_mod_eq, decide_eq_true_eq] at hb; exact hb⟩
    have := wide_has L s (nodesL s) v hm
    rwa [hend] at this
  exact Sub.eq (hin _ (reaches_has L s0 L.length) (reaches_closed hv hb hs0 hL)) (reaches_in h1 hc L.length)
/-- What the loop carries: the set is one of those that lead to the end. -/
def LiesS (L : List Int) (s0 s : Nat) : Prop := Sub s0 s ∧ ∀ t, Sub s0 t → Closed L t → Sub s t
theorem liesS_one (L : List Int) (s0 : Nat) : LiesS L s0 s0 := ⟨Sub.refl _, fun t h _ => h⟩
theorem liesS_wide {L : List Int} {s0 s : Nat} (h : LiesS L s0 s) (h6 : L.length ≤ 6) (hs : s < 2 ^ L.length) : LiesS L s0 (wide L s (nodesL s)) :=
  ⟨h.1.trans (wide_up _ _ _), fun t h1 hc => wide_in (h.2 t h1 hc) hc _ fun v hv => by
    have h2 := nodes_mem.1 hv
    exact ⟨bit_lt hs h2.2, by rw [Nat.testBit_eq_decide_div_mod_eq, decide_eq_true_eq]; exact h2.2⟩⟩
end Go.Proofs.YtamabhdbcmjbjaaDoor
