/- The nodes to which ways lead: the model's way and the program's find one set. Plain mathematics, no condition. -/
import Derived.Test.YtcemhepojjbcgaaDoorBaseA
namespace Go.Proofs.YtcemhepojjbcgaaDoor
open Go Go.RowKit

/-- Each member of the one is one of the other. -/
def Sub (s t : Nat) : Prop := ∀ j : Nat, s.testBit j = true → t.testBit j = true
theorem Sub.refl (s : Nat) : Sub s s := fun _ h => h
theorem Sub.trans {r s t : Nat} (h : Sub r s) (k : Sub s t) : Sub r t := fun j hj => k j (h j hj)
theorem Sub.eq {s t : Nat} (h : Sub s t) (k : Sub t s) : s = t := Nat.eq_of_testBit_eq fun j => by
  have h1 := h j
  have h2 := k j
  cases e1 : s.testBit j <;> cases e2 : t.testBit j <;> simp_all
theorem sub_or {r s t : Nat} (h : Sub r t) (k : Sub s t) : Sub (r ||| s) t := fun j hj => by
  rw [Nat.testBit_or, Bool.or_eq_true] at hj
  exact hj.elim (h j) (k j)
theorem sub_left (r s : Nat) : Sub r (r ||| s) := fun j hj => by rw [Nat.testBit_or, hj]; rfl
theorem sub_right (r s : Nat) : Sub s (r ||| s) := fun j hj => by rw [Nat.testBit_or, hj]; simp
/-- Ways lead out of it nowhere else. -/
def Closed (L : List Int) (t : Nat) : Prop := ∀ v, v < L.length → t.testBit v = true → Sub (ent L v) t

/-- The model's step, and its round. -/
def grow (L : List Int) (s v : Nat) : Nat := if s.testBit v = true then s ||| ent L v else s
def turn (L : List Int) (s k : Nat) : Nat := (List.range k).foldl (grow L) s
theorem turn_zero (L : List Int) (s : Nat) : turn L s 0 = s := rfl
theorem turn_succ (L : List Int) (s k : Nat) : turn L s (k + 1) = grow L (turn L s k) k := by simp [turn, List.range_succ]
theorem grow_up (L : List Int) (s v : Nat) : Sub s (grow L s v) := by unfold grow; split; exact sub_left _ _; exact Sub.refl _
theorem turn_up (L : List Int) (s k : Nat) : Sub s (turn L s k) := by
  induction k with
  | zero => exact Sub.refl _
  | succ k ih => rw [turn_succ]; exact ih.trans (grow_up _ _ _)
theorem turn_mono (L : List Int) (s k m : Nat) (h : k ≤ m) : Sub (turn L s k) (turn L s m) := by
  induction m with
  | zero => have : k = 0 := by omega
            subst this; exact Sub.refl _
  | succ m ih =>
    by_cases hk : k = m + 1
    · subst hk; exact Sub.refl _
    · rw [turn_succ]; exact (ih (by omega)).trans (grow_up _ _ _)
theorem turn_in {L : List Int} {s t : Nat} (hs : Sub s t) (hc : Closed L t) (k : Nat) (hk : k ≤ L.length) : Sub (turn L s k) t := by
  induction k with
  | zero => exact hs
  | succ k ih =>
    rw [turn_succ]
    have h1 := ih (by omega)
    unfold grow
    split
    · exact sub_or h1 (hc k (by omega) (h1 k (by assumption)))
    · exact h1
theorem turn_closed {L : List Int} {s : Nat} (h : turn L s L.length = s) : Closed L s := fun v hv hb => by
  have h1 : Sub (ent L v) (turn L s (v + 1)) := by
    rw [turn_succ]
    unfold grow
    rw [if_pos (turn_up L s v v hb)]
    exact sub_right _ _
  have h2 := h1.trans (turn_mono L s (v + 1) L.length (by omega))
  rwa [h] at h2
theorem turn_lt {L : List Int} {s m : Nat} (hs : s < 2 ^ m) (hL : ∀ v, v < L.length → ent L v < 2 ^ m) (k : Nat) (hk : k ≤ L.length) : turn L s k < 2 ^ m := by
  induction k with
  | zero => exact hs
  | succ k ih =>
    rw [turn_succ]
    unfold grow
    split
    · exact Nat.or_lt_two_pow (ih (by omega)) (hL k (by omega))
    · exact ih (by omega)

/-- How many of the first n nodes. -/
def cntT : Nat → Nat → Nat
  | 0, _ => 0
  | n + 1, s => cntT n s + (if s.testBit n = true then 1 else 0)
theorem cntT_le_n (n s : Nat) : cntT n s ≤ n := by
  induction n with
  | zero => simp [cntT]
  | succ n ih => unfold cntT; split <;> omega
theorem cntT_mono (n : Nat) {s t : Nat} (h : Sub s t) : cntT n s ≤ cntT n t := by
  induction n with
  | zero => simp [cntT]
  | succ n ih =>
    unfold cntT
    by_cases h1 : s.testBit n = true
    · rw [if_pos h1, if_pos (h n h1)]; omega
    · rw [if_neg h1]; omega
theorem cntT_lt (n : Nat) {s t : Nat} (h : Sub s t) (j : Nat) (hj : j < n) (h1 : t.testBit j = true) (h2 : ¬ s.testBit j = true) : cntT n s < cntT n t := by
  induction n with
  | zero => omega
  | succ n ih =>
    unfold cntT
    by_cases hjn : j = n
    · subst hjn
      rw [if_pos h1, if_neg h2]
      have := cntT_mono j h
      omega
    · have h3 := ih (by omega)
      by_cases h4 : s.testBit n = true
      · rw [if_pos h4, if_pos (h n h4)]; omega
      · rw [if_neg h4]; omega
theorem cntT_one (n : Nat) (h : 1 ≤ n) : 1 ≤ cntT n 1 := by
  induction n with
  | zero => omega
  | succ n ih =>
    unfold cntT
    by_cases hn : n = 0
    · subst hn; decide
    · have := ih (by omega)
      omega

/-- The model's sets, one behind the other. -/
def turns (L : List Int) : Nat → Nat
  | 0 => 1
  | k + 1 => turn L (turns L k) L.length
theorem turns_lt {L : List Int} {m : Nat} (hm : 1 ≤ m) (hL : ∀ v, v < L.length → ent L v < 2 ^ m) (k : Nat) : turns L k < 2 ^ m := by
  induction k with
  | zero => show 1 < 2 ^ m; exact Nat.lt_of_lt_of_le (by decide) (Nat.pow_le_pow_right (n := 2) (by omega) hm)
  | succ k ih => exact turn_lt ih hL _ (Nat.le_refl _)
theorem turns_has (L : List Int) (k : Nat) : Sub 1 (turns L k) := by
  induction k with
  | zero => exact Sub.refl _
  | succ k ih => exact ih.trans (turn_up _ _ _)
theorem turns_in {L : List Int} {t : Nat} (h1 : Sub 1 t) (hc : Closed L t) (k : Nat) : Sub (turns L k) t := by
  induction k with
  | zero => exact h1
  | succ k ih => exact turn_in ih hc _ (Nat.le_refl _)
theorem turns_grow {L : List Int} (hn : 1 ≤ L.length) (hL : ∀ v, v < L.length → ent L v < 2 ^ L.length) (k : Nat) : Closed L (turns L k) ∨ k + 1 ≤ cntT L.length (turns L k) := by
  induction k with
  | zero => exact .inr (cntT_one _ hn)
  | succ k ih =>
    have hup := turn_up L (turns L k) L.length
    by_cases hsame : turn L (turns L k) L.length = turns L k
    · refine .inl ?_
      show Closed L (turn L (turns L k) L.length)
      rw [hsame]
      exact turn_closed hsame
    · rcases ih with h | h
      · exact absurd (Sub.eq (turn_in (Sub.refl _) h _ (Nat.le_refl _)) hup) hsame
      · refine .inr ?_
        have hex : ∃ j, (turn L (turns L k) L.length).testBit j = true ∧ ¬ (turns L k).testBit j = true := by
          refine Classical.byContradiction fun hno => hsame (Sub.eq (fun j hj => ?_) hup)
          refine Classical.byContradiction fun h2 => hno ⟨j, hj, h2⟩
        obtain ⟨j, j1, j2⟩ := hex
        have hj : j < L.length := by
          refine Nat.lt_of_not_le fun hle => ?_
          have h3 := turns_lt (m := L.length) hn hL (k + 1)
          have h4 : (turns L (k + 1)).testBit j = false := Nat.testBit_lt_two_pow (Nat.lt_of_lt_of_le h3 (Nat.pow_le_pow_right (n := 2) (by omega) hle))
          rw [show turns L (k + 1) = turn L (turns L k) L.length from rfl, j1] at h4
          cases h4
        have := cntT_lt L.length hup j hj j1 j2
        show k + 1 + 1 ≤ cntT L.length (turn L (turns L k) L.length)
        omega
theorem turns_closed {L : List Int} (hn : 1 ≤ L.length) (hL : ∀ v, v < L.length → ent L v < 2 ^ L.length) : Closed L (turns L L.length) := by
  rcases turns_grow hn hL L.length with h | h
  · exact h
  · have := cntT_le_n L.length (turns L L.length)
    omega

/-- The program's round. -/
def wide (L : List Int) (s : Nat) (pre : List Nat) : Nat := pre.foldl (fun r v => r ||| ent L v) s
theorem wide_nil (L : List Int) (s : Nat) : wide L s [] = s := rfl
theorem wide_snoc (L : List Int) (s : Nat) (pre : List Nat) (v : Nat) : wide L s (pre ++ [v]) = wide L s pre ||| ent L v := by simp [wide]
theorem wide_ge (L : List Int) (s : Nat) (pre : List Nat) : s ≤ wide L s pre := by
  induction pre using snoc_ind with
  | h0 => exact Nat.le_refl _
  | h1 l x ih => rw [wide_snoc]; exact Nat.le_trans ih Nat.left_le_or
theorem wide_up (L : List Int) (s : Nat) (pre : List Nat) : Sub s (wide L s pre) := by
  induction pre using snoc_ind with
  | h0 => exact Sub.refl _
  | h1 l x ih => rw [wide_snoc]; exact ih.trans (sub_left _ _)
theorem wide_has (L : List Int) (s : Nat) (pre : List Nat) (v : Nat) (hv : v ∈ pre) : Sub (ent L v) (wide L s pre) := by
  induction pre using snoc_ind with
  | h0 => cases hv
  | h1 l x ih =>
    rw [wide_snoc]
    rcases List.mem_append.1 hv with h | h
    · exact (ih h).trans (sub_left _ _)
    · rw [List.mem_singleton.1 h]; exact sub_right _ _
theorem wide_in {L : List Int} {s t : Nat} (hs : Sub s t) (hc : Closed L t) (pre : List Nat) (hp : ∀ v ∈ pre, v < L.length ∧ s.testBit v = true) : Sub (wide L s pre) t := by
  induction pre using snoc_ind with
  | h0 => exact hs
  | h1 l x ih =>
    rw [wide_snoc]
    have hx := hp x (by simp)
    exact sub_or (ih fun v hv => hp v (by simp [hv])) (hc x hx.1 (hs x hx.2))
theorem wide_lt {L : List Int} {s m : Nat} (hs : s < 2 ^ m) (pre : List Nat) (hp : ∀ v ∈ pre, ent L v < 2 ^ m) : wide L s pre < 2 ^ m := by
  induction pre using snoc_ind with
  | h0 => exact hs
  | h1 l x ih => rw [wide_snoc]; exact Nat.or_lt_two_pow (ih fun v hv => hp v (by simp [hv])) (hp x (by simp))
/-- The set that the program ends at is the model's. -/
theorem reached_eq {L : List Int} (hn : 1 ≤ L.length) (h6 : L.length ≤ 6) (hL : ∀ v, v < L.length → ent L v < 2 ^ L.length) {s : Nat} (h1 : Sub 1 s) (hin : ∀ t, Sub 1 t → Closed L t → Sub s t) (hend : wide L s (nodesL s) = s) : s = turns L L.length := by
  have hc : Closed L s := fun v hv hb => by
    have hm : v ∈ nodesL s := nodes_mem.2 ⟨by omega, by rw [Nat.testBit_eq_decide_div_mod_eq, decide_eq_true_eq] at hb; exact hb⟩
    have := wide_has L s (nodesL s) v hm
    rwa [hend] at this
  exact Sub.eq (hin _ (turns_has L L.length) (turns_closed hn hL)) (turns_in h1 hc L.length)
end Go.Proofs.YtcemhepojjbcgaaDoor
