/- A tree out of its letters: what the model's walk does; that it never gets stuck. -/
import Derived.Test.YtkngijkhhonikaaDoorBaseG
import Derived.Test.YtkngijkhhonikaaDoorBaseA
namespace Go.Proofs.YtkngijkhhonikaaDoor
open Go Go.RowKit
set_option linter.unusedVariables false
set_option maxRecDepth 100000

/-- What is left and is not written any more. -/
def fFree (left : Nat) : List Nat → Nat
  | [] => left
  | l :: rest => fFree (less left (2 ^ l)) rest
/-- The least bit. -/
def lowB (n x : Nat) : Nat := ((List.range n).find? fun v => Nat.beq (x / 2 ^ v % 2) 1).getD 0
def fLeft (n : Nat) (ls : List Nat) : Nat → Nat
  | 0 => 2 ^ n - 1
  | i + 1 => less (fLeft n ls i) (2 ^ lowB n (fFree (fLeft n ls i) (ls.drop i)))
def fV (n : Nat) (ls : List Nat) (i : Nat) : Nat := lowB n (fFree (fLeft n ls i) (ls.drop i))
def fW (n : Nat) (ls : List Nat) (i : Nat) : Nat := if i < ls.length then ls[i]?.getD 0 else lowB n (fLeft n ls (i + 1))
def fPut (g : List Nat) (a b : Nat) : List Nat := g.set a (g[a]?.getD 0 ||| 2 ^ b)
def fG (n : Nat) (ls : List Nat) : Nat → List Nat
  | 0 => List.replicate n 0
  | i + 1 => fPut (fPut (fG n ls i) (fV n ls i) (fW n ls i)) (fW n ls i) (fV n ls i)
/-- The tree. -/
def fromT (n : Nat) (ls : List Nat) : List Nat := fG n ls (ls.length + 1)

theorem fPut_len (g : List Nat) (a b : Nat) : (fPut g a b).length = g.length := by simp [fPut]
theorem fG_len (n : Nat) (ls : List Nat) (i : Nat) : (fG n ls i).length = n := by
  induction i with
  | zero => simp [fG]
  | succ i ih => unfold fG; rw [fPut_len, fPut_len, ih]
theorem fPut_small {g : List Nat} {a b : Nat} (hg : ∀ u : Nat, g[u]?.getD 0 < 64) (hb : b < 6) : ∀ u : Nat, (fPut g a b)[u]?.getD 0 < 64 := fun u => by
  unfold fPut
  by_cases hu : a = u
  · subst hu
    by_cases hl : a < g.length
    · rw [List.getElem?_set_self hl]
      exact Nat.or_lt_two_pow (n := 6) (hg a) (Nat.pow_lt_pow_right (by omega) hb)
    · rw [List.getElem?_eq_none (by simpa using hl)]
      show 0 < 64
      omega
  · rw [List.getElem?_set_ne hu]
    exact hg u
theorem pc_less : ∀ x : Fin 64, ∀ l : Fin 6, pcf 6 x.val ≤ pcf 6 (less x.val (2 ^ l.val)) + 1 ∧ (x.val / 2 ^ l.val % 2 = 1 → pcf 6 (less x.val (2 ^ l.val)) + 1 = pcf 6 x.val) := by decide +kernel
theorem pc_full : ∀ n : Fin 7, pcf 6 (2 ^ n.val - 1) = n.val := by decide
theorem pow6_leF {l : Nat} (h : l < 6) : 2 ^ l ≤ 64 := Nat.le_trans (Nat.pow_le_pow_right (n := 2) (by omega) (Nat.le_of_lt h)) (show 2 ^ 6 ≤ 64 by decide)
theorem free_le (rest : List Nat) : ∀ left, fFree left rest ≤ left := by
  induction rest with
  | nil => intro left; exact Nat.le_refl _
  | cons l rest ih => intro left; exact Nat.le_trans (ih _) (less_le _ _)
theorem free_pc (rest : List Nat) : ∀ left, left < 64 → (∀ l ∈ rest, l < 6) → pcf 6 left ≤ pcf 6 (fFree left rest) + rest.length := by
  induction rest with
  | nil => intro left _ _; exact Nat.le_refl _
  | cons l rest ih =>
    intro left h64 h6
    have h1 := less_le left (2 ^ l)
    have h2 := (pc_less ⟨left, h64⟩ ⟨l, h6 l (by simp)⟩).1
    have h3 := ih (less left (2 ^ l)) (by omega) (fun x hx => h6 x (by simp [hx]))
    show pcf 6 left ≤ pcf 6 (fFree (less left (2 ^ l)) rest) + (rest.length + 1)
    dsimp only at h2
    omega
theorem free_sub (rest : List Nat) (v : Nat) : ∀ left, left < 64 → (∀ l ∈ rest, l < 6) → (fFree left rest).testBit v = true → left.testBit v = true := by
  induction rest with
  | nil => intro left _ _ h; exact h
  | cons l rest ih =>
    intro left h64 h6 h
    have h1 := less_le left (2 ^ l)
    have h3 := ih (less left (2 ^ l)) (by omega) (fun x hx => h6 x (by simp [hx])) h
    rw [less_tb h64 (pow6_leF (h6 l (by simp)))] at h3
    rw [Bool.and_eq_true] at h3
    exact h3.1
theorem lowB_ok {n x : Nat} (h0 : x ≠ 0) (hx : x < 2 ^ n) : lowB n x < n ∧ x / 2 ^ lowB n x % 2 = 1 ∧ ∀ u, u < lowB n x → ¬ x / 2 ^ u % 2 = 1 := by
  have hs : (List.range n).find? (fun v => Nat.beq (x / 2 ^ v % 2) 1) ≠ none := fun e => by
    rw [List.find?_eq_none] at e
    refine h0 (Nat.eq_of_testBit_eq fun k => ?_)
    rw [Nat.zero_testBit]
    by_cases hk : k < n
    · have h := e k (List.mem_range.2 hk)
      rw [Nat.testBit_eq_decide_div_mod_eq, decide_eq_false_iff_not]
      intro h1
      rw [h1] at h
      exact h rfl
    · exact Nat.testBit_lt_two_pow (Nat.lt_of_lt_of_le hx (Nat.pow_le_pow_right (by omega) (by omega)))
  obtain ⟨u, hu⟩ := Option.ne_none_iff_exists'.1 hs
  have e : lowB n x = u := by unfold lowB; rw [hu]; rfl
  rw [e]
  have h1 := List.find?_some hu
  have h2 := List.mem_range.1 (List.mem_of_find?_eq_some hu)
  refine ⟨h2, Nat.eq_of_beq_eq_true h1, fun v hv h3 => ?_⟩
  rw [List.find?_eq_some_iff_getElem] at hu
  obtain ⟨_, i, hi, hiu, hno⟩ := hu
  rw [List.getElem_range] at hiu
  subst hiu
  have h4 := hno v hv
  rw [List.getElem_range, h3] at h4
  exact absurd h4 (by decide)

/-- What lists are letters of a tree of n nodes. -/
def IsLetters (n : Nat) (ls : List Nat) : Prop := 2 ≤ n ∧ n ≤ 6 ∧ ls.length + 2 = n ∧ ∀ l ∈ ls, l < n
theorem low_or (a : Nat) : 2 ^ a ≠ 0 := by have := Nat.pow_pos (n := a) (show 0 < 2 by omega); omega
/-- **No step gets stuck.** -/
theorem from_ok {n : Nat} {ls : List Nat} (h : IsLetters n ls) (i : Nat) (hi : i ≤ ls.length) :
    fLeft n ls i < 2 ^ n ∧ pcf 6 (fLeft n ls i) = n - i ∧ (fV n ls i < n ∧ fFree (fLeft n ls i) (ls.drop i) / 2 ^ fV n ls i % 2 = 1 ∧ ∀ u, u < fV n ls i → ¬ fFree (fLeft n ls i) (ls.drop i) / 2 ^ u % 2 = 1) ∧
    fLeft n ls (i + 1) < 2 ^ n ∧ pcf 6 (fLeft n ls (i + 1)) = n - (i + 1) := by
  obtain ⟨h2, h6, hl, hm⟩ := h
  have h64 : 2 ^ n ≤ 64 := Nat.le_trans (Nat.pow_le_pow_right (n := 2) (by omega) h6) (show 2 ^ 6 ≤ 64 by decide)
  have step : ∀ i, i ≤ ls.length → fLeft n ls i < 2 ^ n → pcf 6 (fLeft n ls i) = n - i →
      (fV n ls i < n ∧ fFree (fLeft n ls i) (ls.drop i) / 2 ^ fV n ls i % 2 = 1 ∧ ∀ u, u < fV n ls i → ¬ fFree (fLeft n ls i) (ls.drop i) / 2 ^ u % 2 = 1) ∧ fLeft n ls (i + 1) < 2 ^ n ∧ pcf 6 (fLeft n ls (i + 1)) = n - (i + 1) := fun i hi hlt hpc => by
    have hr6 : ∀ l ∈ ls.drop i, l < 6 := fun l hl' => by have := hm l (List.mem_of_mem_drop hl'); omega
    have h3 := free_pc (ls.drop i) (fLeft n ls i) (by omega) hr6
    rw [List.length_drop] at h3
    have h4 := free_le (ls.drop i) (fLeft n ls i)
    have h5 : fFree (fLeft n ls i) (ls.drop i) ≠ 0 := fun e => by
      rw [e, pcf_zero] at h3
      omega
    have h7 := lowB_ok (n := n) h5 (by omega)
    refine ⟨h7, ?_⟩
    have h8 := free_sub (ls.drop i) (fV n ls i) (fLeft n ls i) (by omega) hr6 (by
      rw [Nat.testBit_eq_decide_div_mod_eq, decide_eq_true_eq]; exact h7.2.1)
    rw [Nat.testBit_eq_decide_div_mod_eq, decide_eq_true_eq] at h8
    have hv6 : fV n ls i < 6 := by have : fV n ls i < n := h7.1; omega
    have h9 := (pc_less ⟨fLeft n ls i, by omega⟩ ⟨fV n ls i, hv6⟩).2 h8
    dsimp only at h9
    have e : fLeft n ls (i + 1) = less (fLeft n ls i) (2 ^ fV n ls i) := rfl
    rw [e]
    have h10 := less_le (fLeft n ls i) (2 ^ fV n ls i)
    exact ⟨by omega, by omega⟩
  have key : ∀ i, i ≤ ls.length → fLeft n ls i < 2 ^ n ∧ pcf 6 (fLeft n ls i) = n - i := fun i => by
    induction i with
    | zero =>
      intro _
      have h1 := pc_full ⟨n, by omega⟩
      have := Nat.pow_pos (n := n) (show 0 < 2 by omega)
      exact ⟨by show 2 ^ n - 1 < 2 ^ n; omega, h1⟩
    | succ i ih =>
      intro hi
      obtain ⟨a, b⟩ := ih (by omega)
      exact (step i (by omega) a b).2
  obtain ⟨a, b⟩ := key i hi
  obtain ⟨c, d⟩ := step i hi a b
  exact ⟨a, b, c, d⟩
/-- The last node's neighbour. -/
theorem from_last {n : Nat} {ls : List Nat} (h : IsLetters n ls) : fW n ls ls.length < n ∧ fLeft n ls (ls.length + 1) / 2 ^ fW n ls ls.length % 2 = 1 ∧ ∀ u, u < fW n ls ls.length → ¬ fLeft n ls (ls.length + 1) / 2 ^ u % 2 = 1 := by
  obtain ⟨_, _, _, a, b⟩ := from_ok h ls.length (Nat.le_refl _)
  have e : fW n ls ls.length = lowB n (fLeft n ls (ls.length + 1)) := by unfold fW; rw [if_neg (by omega)]
  rw [e]
  refine lowB_ok (fun h0 => ?_) a
  rw [h0, pcf_zero] at b
  have := h.2.2.1
  omega
theorem from_w {n : Nat} {ls : List Nat} (h : IsLetters n ls) (i : Nat) (hi : i ≤ ls.length) : fW n ls i < n := by
  by_cases hlt : i < ls.length
  · unfold fW
    rw [if_pos hlt, List.getElem?_eq_getElem hlt]
    exact h.2.2.2 _ (List.getElem_mem hlt)
  · obtain rfl : i = ls.length := by omega
    exact (from_last h).1
theorem from_small {n : Nat} {ls : List Nat} (h : IsLetters n ls) (i : Nat) (hi : i ≤ ls.length + 1) : ∀ u : Nat, (fG n ls i)[u]?.getD 0 < 64 := by
  induction i with
  | zero =>
    intro u
    show (List.replicate n 0)[u]?.getD 0 < 64
    rw [List.getElem?_replicate]
    split <;> simp
  | succ i ih =>
    have h1 := (from_ok h i (by omega)).2.2.1.1
    have h2 := from_w h i (by omega)
    have h6 := h.2.1
    exact fPut_small (fPut_small (ih (by omega)) (by omega)) (by omega)
end Go.Proofs.YtkngijkhhonikaaDoor
