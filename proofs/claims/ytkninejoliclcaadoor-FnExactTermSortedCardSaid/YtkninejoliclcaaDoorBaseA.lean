/- Texts in one: TermMath, TermKit. -/
import Derived.Test.YtkninejoliclcaaDoorRows
import Derived.WalkKit
import Derived.ProofKit
import Derived.OpenShut
import Derived.LoopTactic
import Derived.RegionTactic
import Derived.Deep.QuietTactic
import Derived.BigQuiet
import Derived.Outline
import Derived.Lib.Hide
import Derived.Below
import Derived.OwnWalk
import Derived.Laws.OwnMore
import Derived.Deep.Draws
import Derived.WalkSmall
import Derived.Deep.RegionWith

/- Terms: how a text is read as a term, its tidy term, the text of a tidy term, and its numbers. -/
namespace Go.Proofs.YtkninejoliclcaaDoor
set_option linter.unusedVariables false
set_option maxRecDepth 100000

/-- A term: one node, a term with a sign in front, two terms with a sign between (true for the star). -/
inductive Tm where
  | one : Tm
  | neg : Tm → Tm
  | par : Bool → Tm → Tm → Tm
deriving DecidableEq, Inhabited

/-- The signs. -/
def sgB (s : Bool) : UInt8 := if s then 42 else 43

/-- Reads a term with which a text begins, and what stands behind it. -/
def rd : Nat → List UInt8 → Option (Tm × List UInt8)
  | 0, _ => none
  | _ + 1, [] => none
  | n + 1, c :: r =>
    if c = 49 then some (.one, r)
    else if c = 40 then
      match rd n r with
      | none => none
      | some (_, []) => none
      | some (a, d :: m) =>
        if d = 43 ∨ d = 42 then
          match rd n m with
          | none => none
          | some (_, []) => none
          | some (b, e :: q) => if e = 41 then some (.par (decide (d = 42)) a b, q) else none
        else none
    else if c = 45 then
      match rd n r with
      | none => none
      | some (a, q) => some (.neg a, q)
    else none

/-- How many nodes a term has. -/
def Tm.ones : Tm → Nat
  | .one => 1
  | .neg a => a.ones
  | .par _ a b => a.ones + b.ones
theorem Tm.ones_pos : ∀ t : Tm, 1 ≤ t.ones
  | .one => Nat.le_refl 1
  | .neg a => a.ones_pos
  | .par _ a b => Nat.le_trans a.ones_pos (Nat.le_add_right _ _)

/-- How many signs 1 a text has. -/
def onesOf (l : List UInt8) : Nat := l.count 49

theorem rd_len : ∀ (n : Nat) (l : List UInt8) (t : Tm) (r : List UInt8), rd n l = some (t, r) → ∃ p, l = p ++ r ∧ 1 ≤ p.length ∧ p.count 49 = t.ones
  | 0, _, _, _, h => by simp [rd] at h
  | _ + 1, [], _, _, h => by simp [rd] at h
  | n + 1, c :: l, t, r, h => by
    rw [rd] at h
    by_cases h1 : c = 49
    · rw [if_pos h1] at h
      obtain ⟨rfl, rfl⟩ := Prod.mk.inj (Option.some.inj h)
      exact ⟨[c], rfl, by simp, by rw [h1]; rfl⟩
    · rw [if_neg h1] at h
      by_cases h2 : c = 40
      · rw [if_pos h2] at h
        cases ea : rd n l with
        | none => rw [ea] at h; simp at h
        | some x =>
          obtain ⟨a, m⟩ := x
          obtain ⟨p1, e1, g1, k1⟩ := rd_len n l a m ea
          rw [ea] at h
          cases m with
          | nil => simp at h
          | cons d m =>
            simp only at h
            by_cases h3 : d = 43 ∨ d = 42
            · rw [if_pos h3] at h
              cases eb : rd n m with
              | none => rw [eb] at h; simp at h
              | some y =>
                obtain ⟨b, q⟩ := y
                obtain ⟨p2, e2, g2, k2⟩ := rd_len n m b q eb
                rw [eb] at h
                cases q with
                | nil => simp at h
                | cons e q =>
                  simp only at h
                  by_cases h4 : e = 41
                  · rw [if_pos h4] at h
                    obtain ⟨rfl, rfl⟩ := Prod.mk.inj (Option.some.inj h)
                    refine ⟨c :: (p1 ++ d :: (p2 ++ [e])), by rw [e1, e2]; simp, by simp, ?_⟩
                    have hd : (d == 49) = false := by rcases h3 with h3 | h3 <;> rw [h3] <;> rfl
                    have he : (e == 49) = false := by rw [h4]; rfl
                    have hc : (c == 49) = false := by rw [h2]; rfl
                    simp [List.count_cons, List.count_append, hd, he, hc, k1, k2, Tm.ones]
                  · rw [if_neg h4] at h; simp at h
            · rw [if_neg h3] at h; simp at h
      · rw [if_neg h2] at h
        by_cases h3 : c = 45
        · rw [if_pos h3] at h
          cases ea : rd n l with
          | none => rw [ea] at h; simp at h
          | some x =>
            obtain ⟨a, m⟩ := x
            obtain ⟨p1, e1, g1, k1⟩ := rd_len n l a m ea
            rw [ea] at h
            simp only at h
            obtain ⟨rfl, rfl⟩ := Prod.mk.inj (Option.some.inj h)
            have hc : (c == 49) = false := by rw [h3]; rfl
            exact ⟨c :: p1, by rw [e1]; rfl, by simp, by simp [List.count_cons, hc, k1, Tm.ones]⟩
        · rw [if_neg h3] at h; simp at h

/-- The term that a text is, if it is one. -/
def termOf (l : List UInt8) : Option Tm :=
  if 60 < l.length ∨ 6 < l.count 49 then none
  else match rd l.length l with
    | some (t, []) => some t
    | _ => none

theorem termOf_ones (l : List UInt8) (t : Tm) (h : termOf l = some t) : t.ones ≤ 6 ∧ l.length ≤ 60 := by
  unfold termOf at h
  by_cases hl : 60 < l.length ∨ 6 < l.count 49
  · rw [if_pos hl] at h; simp at h
  · rw [if_neg hl] at h
    cases e : rd l.length l with
    | none => rw [e] at h; simp at h
    | some x =>
      obtain ⟨a, m⟩ := x
      obtain ⟨p, e1, _, k⟩ := rd_len _ l a m e
      rw [e] at h
      cases m with
      | cons d m => simp at h
      | nil =>
        simp only at h
        obtain rfl := Option.some.inj h
        have : l.count 49 = a.ones := by rw [e1, List.append_nil]; exact k
        omega

/-- No sign in front anywhere. -/
def Tm.tidy : Tm → Prop
  | .one => True
  | .neg _ => False
  | .par _ a b => a.tidy ∧ b.tidy

/-- The tidy term of a term, or of it with a sign in front. -/
def Tm.td : Tm → Bool → Tm
  | .one, _ => .one
  | .neg a, o => a.td (!o)
  | .par s a b, o => .par (s != o) (a.td o) (b.td o)
theorem Tm.td_tidy : ∀ (t : Tm) (o : Bool), (t.td o).tidy
  | .one, _ => trivial
  | .neg a, o => a.td_tidy (!o)
  | .par _ a b, o => ⟨a.td_tidy o, b.td_tidy o⟩
theorem Tm.td_ones : ∀ (t : Tm) (o : Bool), (t.td o).ones = t.ones
  | .one, _ => rfl
  | .neg a, o => a.td_ones (!o)
  | .par _ a b, o => by show (a.td o).ones + (b.td o).ones = _; rw [a.td_ones o, b.td_ones o]; rfl

/-- The text of a tidy term. -/
def Tm.txt : Tm → List UInt8
  | .one => [49]
  | .neg _ => [49]
  | .par s a b => 40 :: (a.txt ++ sgB s :: (b.txt ++ [41]))

/-- The number of a tidy term: at one sign the numbers are added, and at the other one the greater one is taken. -/
def Tm.fo (add : Bool) : Tm → Nat
  | .one => 1
  | .neg _ => 1
  | .par s a b => if s = add then a.fo add + b.fo add else max (a.fo add) (b.fo add)
theorem Tm.fo_le (add : Bool) : ∀ t : Tm, t.fo add ≤ t.ones
  | .one => Nat.le_refl 1
  | .neg a => a.ones_pos
  | .par s a b => by
    have h1 := a.fo_le add
    have h2 := b.fo_le add
    show (if s = add then a.fo add + b.fo add else max (a.fo add) (b.fo add)) ≤ a.ones + b.ones
    split <;> omega

end Go.Proofs.YtkninejoliclcaaDoor

/- What the texts on terms share: how a call ends that hands back a value and leaves what was there; terms as values of the program. -/

















namespace Go.Proofs.YtkninejoliclcaaDoor
open Go.RowKit
set_option linter.unusedVariables false
set_option maxRecDepth 100000

/-- A call that hands back a value and leaves what was there as it was. -/
def Gave (w : World) (v : Value) (e : Ending) (w' : World) : Prop := e = .returned v ∧ Below w.heap.size w w'

theorem below_alloc_then {w w1 : World} {o : Obj} (b : Below (w.alloc o).heap.size (w.alloc o) w1) : Below w.heap.size w w1 :=
  ((Below.refl w.heap.size w).alloc (Nat.le_refl _) o).trans (b.mono (by simp))

theorem below_drew {w w1 : World} (b : Below w.drew.heap.size w.drew w1) : Below w.heap.size w w1 := (Below.refl w.heap.size w).drew.trans b

/-- A text as a value. -/
def str (l : List UInt8) : Value := .string ⟨l.toArray⟩

/-- A term as a value of the program. -/
def ival : Tm → Value
  | .one => .iface 105 (.agg #[])
  | .neg a => .iface 95 (.agg #[ival a])
  | .par s a b => .iface 68 (.agg #[.string ⟨#[sgB s]⟩, ival a, ival b])
theorem ival_iface : ∀ t : Tm, ∃ T X, ival t = .iface T X
  | .one => ⟨_, _, rfl⟩
  | .neg _ => ⟨_, _, rfl⟩
  | .par _ _ _ => ⟨_, _, rfl⟩
/-- The error of a text that is no term. -/
def noT (x : List UInt8) : Value := .iface 62 (.agg #[.string ⟨x.toArray⟩])

/-! ### Which of the three a term is, as the program asks. -/
theorem one_neg (u : Value) (w : World) : (Instr.typeAssert (.iface 105 u) 45 95 true).run Tryd.prog w = .ok (.tuple #[.agg #[.nilIface], .bool false]) w := by kernel_rfl
theorem one_par (u : Value) (w : World) : (Instr.typeAssert (.iface 105 u) 45 68 true).run Tryd.prog w = .ok (.tuple #[.agg #[.string ⟨#[]⟩, .nilIface, .nilIface], .bool false]) w := by kernel_rfl
theorem neg_neg (u : Value) (w : World) : (Instr.typeAssert (.iface 95 u) 45 95 true).run Tryd.prog w = .ok (.tuple #[u, .bool true]) w := by kernel_rfl
theorem par_neg (u : Value) (w : World) : (Instr.typeAssert (.iface 68 u) 45 95 true).run Tryd.prog w = .ok (.tuple #[.agg #[.nilIface], .bool false]) w := by kernel_rfl
theorem par_par (u : Value) (w : World) : (Instr.typeAssert (.iface 68 u) 45 68 true).run Tryd.prog w = .ok (.tuple #[u, .bool true]) w := by kernel_rfl

end Go.Proofs.YtkninejoliclcaaDoor
