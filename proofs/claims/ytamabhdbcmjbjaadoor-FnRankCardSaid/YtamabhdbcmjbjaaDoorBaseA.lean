/- Texts in one: Help, Math, Make, In, IsGraph, Zeros, Nodes, SpecIn, GraphFns, AsGraph, AsAny, ListKit, Append, AppendAt, DoorKit, NumA, NumB, Pairs, PairsFn, CodeMath, CodeStep, SpecCode, CodeIn, ImplCode, EdgeMath, SizeCode, RoundTail, HeldRound, RegionInv, RoundQuiet, Marks, LinkMath, LinkDef, StillKit. -/
import Derived.Test.YtamabhdbcmjbjaaDoorRows
import Derived.WalkKit
import Derived.ProofKit
import Derived.OpenShut
import Derived.LoopTactic
import Derived.RegionTactic
import Derived.Deep.QuietTactic
import Derived.BigQuiet
import Derived.Outline
import Derived.Lib.Hide
import Derived.Below
import Derived.OwnWalk
import Derived.Laws.OwnMore
import Derived.Deep.Draws
import Derived.Maps.AppendAt
import Derived.Laws.BitsAllLaws
import Derived.Laws.BitsLemmas
import Derived.Laws.Wrap64
import Derived.IntWalk
import Derived.StillTailTactics
import Derived.RangeFuncNested
import Derived.RangeFuncBound
import Derived.RangeFuncCalls
import Derived.RangeFuncLeaves
import Derived.RangeFuncFrom
import Derived.Shelf.Abstract
import Derived.Shelf.RegionOpen
import Derived.OwnWalkIn
import Derived.TacticsInMore
import Derived.LoopNIn
import Derived.LoopIn
import Derived.RangeFuncBox
import Derived.Deep.RegionLaw
import Derived.Test.YtamabhdbcmjbjaaDoorCards
import Derived.Test.YtamabhdbcmjbjaaDoorTie
import Derived.Carry
import Derived.ChangeSlices
import Derived.Deep.DeepHandedRow
import Derived.Lib.LaidTab
import Derived.Stop.LaidErr
import Derived.StillTail
import Derived.StillTactics
import Derived.OrdersIn
import Derived.TacticsIn
import Derived.OrdersHeld
import Derived.Sort.QuietThIn
import Derived.Sort.QuietTacIn
import Derived.RangeFuncKeeps
import Derived.Still

/- The contracts of the helpers of the exact laws (two lists compared; a list marked; the marks asked), over slices that the call itself owns. No conditions but those that each theorem names. -/















namespace Go.Proofs.YtamabhdbcmjbjaaDoor
open Go.RowKit
set_option linter.unusedVariables false


/-- A slice value that the call owns: block B or later, and it holds the numbers xs. -/
def Row (w : World) (B : Nat) (v : Value) (xs : List Int) : Prop := w.ownsRow B 3 1 v xs.length (xs.map (Value.int .i64))

theorem getD_map (xs : List Int) (k : Nat) (hk : k < xs.length) : (xs.map (Value.int .i64))[k]? = some (.int .i64 (xs[k]?.getD 0)) := by
  simp [hk]

theorem Row.drewN {w : World} {B : Nat} {v : Value} {xs : List Int} (h : Row w B v xs) (n : Nat) : Row (w.drewN n) B v xs := h
theorem Row.alloc {w : World} {B : Nat} {v : Value} {xs : List Int} (h : Row w B v xs) (o : Obj) : Row (w.alloc o) B v xs := World.ownsRow.alloc h o

theorem Row.see {w : World} {B : Nat} {v : Value} {xs : List Int} (h : Row w B v xs) :
    ∃ A c, v = .slice A xs.length c ∧ ∀ k, k < xs.length → ∃ g, A = some ⟨g, 0, none⟩ ∧ B ≤ g ∧ w.cell? ⟨g, k, none⟩ = some (.int .i64 (xs[k]?.getD 0)) ∧ w.frozen? ⟨g, k, none⟩ = false := by
  have h0 := h
  unfold Row at h0
  rcases h0.2 with ⟨rfl, hn⟩ | ⟨g, cap, cur, rfl, hg, _, _, _, _, _⟩
  · exact ⟨none, 0, by rw [hn], fun k hk => absurd hk (by omega)⟩
  · exact ⟨_, cap, rfl, fun k hk => ⟨g, rfl, hg, by rw [World.ownsRow.cellAt h0 k (by omega)]; exact getD_map xs k hk, World.ownsRow.frozenAt h0 k⟩⟩

theorem take_eq_succ {xs ys : List Int} {k : Nat} (hk : k < xs.length) (hl : xs.length = ys.length) (h : xs.take k = ys.take k) (he : xs[k]?.getD 0 = ys[k]?.getD 0) : xs.take (k + 1) = ys.take (k + 1) := by
  have hk' : k < ys.length := by omega
  rw [List.take_succ_eq_append_getElem hk, List.take_succ_eq_append_getElem hk', h]
  simp [hk, hk'] at he
  rw [he]
theorem ne_of_get {xs ys : List Int} {k : Nat} (h : ¬ xs[k]?.getD 0 = ys[k]?.getD 0) : xs ≠ ys := fun e => h (by rw [e])

/-- How eqIntS ends. -/
def SaidEq (w : World) (xs ys : List Int) (e : Ending) (w' : World) : Prop := e = .returned (.bool (decide (xs = ys))) ∧ ∃ n, w' = w.drewN n

theorem ret_bool {a b : Bool} (h : a = b) : Ending.returned (.bool a) = .returned (.bool b) := by rw [h]

/-! ### markIntS, heldIntS -/
/-- The marks k, k + 1, .. -/
def marks (k : Int) (n : Nat) : List Int := (List.range n).map fun (i : Nat) => k + (i : Int)
theorem marks_length (k : Int) (n : Nat) : (marks k n).length = n := by simp [marks]
theorem marks_get (k : Int) (n i : Nat) (h : i < n) : (marks k n)[i]?.getD 0 = k + i := by simp [marks, h]
/-- The first i places are marked, the others are as they were. -/
def partly (k : Int) (xs : List Int) (i : Nat) : List Int := marks k i ++ xs.drop i
theorem partly_zero (k : Int) (xs : List Int) : partly k xs 0 = xs := by simp [partly, marks]
theorem partly_all (k : Int) (xs : List Int) : partly k xs xs.length = marks k xs.length := by simp [partly]
theorem partly_length (k : Int) (xs : List Int) (i : Nat) (h : i ≤ xs.length) : (partly k xs i).length = xs.length := by simp [partly, marks]; omega
theorem partly_succ (k : Int) (xs : List Int) (i : Nat) (h : i < xs.length) : (partly k xs i).set i (k + i) = partly k xs (i + 1) := by
  unfold partly
  have e : i = (marks k i).length := by rw [marks_length]
  rw [List.set_append_right _ _ (by rw [marks_length]; omega), marks_length, Nat.sub_self, List.drop_eq_getElem_cons h, List.set_cons_zero]
  simp [marks, List.range_succ]

theorem Row.set {w : World} {B g cap : Nat} {n : Nat} {xs : List Int} (h : Row w B (.slice (some ⟨g, 0, none⟩) n cap) xs) (j : Nat) (hj : j < xs.length) (x : Int) :
    Row (w.setCell ⟨g, j, none⟩ (.int .i64 x)) B (.slice (some ⟨g, 0, none⟩) n cap) (xs.set j x) := by
  obtain ⟨h1, h2⟩ := h
  have hn : n = xs.length := by
    rcases h2 with ⟨hv, _⟩ | ⟨g', cap', cur, hv, _⟩
    · cases hv
    · cases hv; rfl
  subst hn
  have := World.ownsRow.stored (w := w) (base := B) (e := 3) (size := 1) (n := xs.length) ⟨h1, h2⟩ j (.int .i64 x)
  unfold Row
  rw [List.length_set, List.map_set]
  exact this.1

def SaidMark (w : World) (B g : Nat) (v : Value) (k : Int) (n : Nat) (e : Ending) (w' : World) : Prop :=
  e = .returned (.int .i64 (k + n)) ∧ Row w' B v (marks k n) ∧ w.grownBy w' (some g)

theorem ret_int {a b : Int} (h : a = b) : Ending.returned (.int .i64 a) = .returned (.int .i64 b) := by rw [h]

/-! ### What a function of one list and one bool tells -/
theorem Row.below {w w' : World} {B : Nat} {v : Value} {xs : List Int} (h : Row w B v xs) (hb : Below w.heap.size w w') : Row w' B v xs :=
  World.ownsRow.kept (row := none) h ⟨hb.os, hb.tape, hb.output, hb.size, fun k hk _ => hb.block k hk⟩ (by cases hv : v.ownBlock <;> simp)
theorem Row.lt {w : World} {B : Nat} {v : Value} {xs : List Int} (h : Row w B v xs) : ∀ k, v.ownBlock = some k → B ≤ k ∧ k < w.heap.size := World.ownsRow.lt h
/-- A row of elder blocks stays while a row of younger ones is written. -/
theorem Row.apart {w1 w2 : World} {B B' : Nat} {v v' : Value} {xs : List Int} (h : Row w1 B v xs) (hv : ∀ k, v.ownBlock = some k → k < B') (hv' : ∀ k, v'.ownBlock = some k → B' ≤ k) (hg : w1.grownBy w2 v'.ownBlock) : Row w2 B v xs := by
  refine World.ownsRow.kept h hg ?_
  cases hv0 : v.ownBlock with
  | none => exact .inl rfl
  | some a =>
    refine .inr fun e => ?_
    have h1 := hv a hv0
    have h2 := hv' a e.symm
    omega
theorem below_drewN {B : Nat} {a w : World} (h : Below B a w) (n : Nat) : Below B a (w.drewN n) := h.trans ⟨rfl, rfl, rfl, Nat.le_refl _, fun _ _ => rfl⟩

def Told (w : World) (L : List Int) (ok : Bool) (e : Ending) (w' : World) : Prop :=
  ∃ v, e = .returned (.tuple #[v, .bool ok]) ∧ Row w' w.heap.size v L ∧ Below w.heap.size w w'
def Fine (w : World) (e : Ending) (w' : World) : Prop := e = .returned (.bool true) ∧ Below w.heap.size w w'

def Yes (w : World) (e : Ending) (w' : World) : Prop := e = .returned (.bool true) ∧ ∃ n, w' = w.drewN n
theorem Row.cellAt {w : World} {B g n cap : Nat} {xs : List Int} (h : Row w B (.slice (some ⟨g, 0, none⟩) n cap) xs) (k : Nat) (hk : k < xs.length) : w.cell? ⟨g, k, none⟩ = some (.int .i64 (xs[k]?.getD 0)) := by
  obtain ⟨A, c, hv, hA⟩ := h.see
  obtain ⟨g', hg', _, hc, _⟩ := hA k hk
  rw [hg'] at hv
  cases hv
  exact hc
theorem Row.frozenAt {w : World} {B g n cap : Nat} {xs : List Int} (h : Row w B (.slice (some ⟨g, 0, none⟩) n cap) xs) (k : Nat) (hk : k < xs.length) : w.frozen? ⟨g, k, none⟩ = false := by
  obtain ⟨A, c, hv, hA⟩ := h.see
  obtain ⟨g', hg', _, _, hf⟩ := hA k hk
  rw [hg'] at hv
  cases hv
  exact hf

theorem Row.mono {w : World} {B B' : Nat} {v : Value} {xs : List Int} (h : Row w B v xs) (hB : B' ≤ B) : Row w B' v xs := by
  obtain ⟨h1, h2⟩ := h
  refine ⟨h1, ?_⟩
  rcases h2 with h2 | ⟨g, cap, cur, hv, hg, r⟩
  · exact .inl h2
  · exact .inr ⟨g, cap, cur, hv, Nat.le_trans hB hg, r⟩
end Go.Proofs.YtamabhdbcmjbjaaDoor

/- Plain mathematics of graphs as lists of sets: pairs in order, edges put by a code. No condition. -/





namespace Go.Proofs.YtamabhdbcmjbjaaDoor
open Go Go.RowKit

/-- Numbers as the cells hold them. -/
def ints (L : List Nat) : List Int := L.map fun (x : Nat) => (x : Int)
theorem ints_length (L : List Nat) : (ints L).length = L.length := by simp [ints]
theorem ints_set (L : List Nat) (i x : Nat) : (ints L).set i (x : Int) = ints (L.set i x) := by simp [ints, List.map_set]
theorem ints_get (L : List Nat) (i : Nat) : (ints L)[i]?.getD 0 = ((L[i]?.getD 0 : Nat) : Int) := by
  unfold ints
  rw [List.getElem?_map]
  cases L[i]? <;> simp
theorem ints_inj {L M : List Nat} (h : ints L = ints M) : L = M := by
  induction L generalizing M with
  | nil => cases M <;> simp_all [ints]
  | cons a L ih =>
    cases M with
    | nil => simp [ints] at h
    | cons b M =>
      simp only [ints, List.map_cons, List.cons.injEq] at h
      rw [ih h.2, Int.ofNat_inj.1 h.1]

/-! ### bits of small numbers -/
/-- A number below 2^63 as a word of 64 bits is itself. -/
theorem word (a : Nat) (h : a < 2 ^ 63) : (BitVec.ofInt 64 (a : Int)).toNat = a := by
  simp only [BitVec.ofInt_natCast, BitVec.toNat_ofNat]
  omega
/-- A word whose number is below 2^63 reads as that number. -/
theorem unword (v : BitVec 64) (m : Nat) (hv : v.toNat = m) (h : m < 2 ^ 63) : IntKind.i64.wrap (v.toNat : Int) = (m : Int) := by
  rw [IntKind.wrap_i64, hv]
  omega
theorem i64_and_nat (a b : Nat) (ha : a < 9223372036854775808) (hb : b < 9223372036854775808) : bits .and .i64 (a : Int) (b : Int) = ((a &&& b : Nat) : Int) :=
  unword (BitVec.ofInt 64 (a : Int) &&& BitVec.ofInt 64 (b : Int)) _ (by rw [BitVec.toNat_and, word a ha, word b hb]) (Nat.and_lt_two_pow a hb)
theorem i64_or_nat (a b : Nat) (ha : a < 9223372036854775808) (hb : b < 9223372036854775808) : bits .or .i64 (a : Int) (b : Int) = ((a ||| b : Nat) : Int) :=
  unword (BitVec.ofInt 64 (a : Int) ||| BitVec.ofInt 64 (b : Int)) _ (by rw [BitVec.toNat_or, word a ha, word b hb]) (Nat.or_lt_two_pow ha hb)
theorem i64_andNot_nat (a b : Nat) (ha : a < 9223372036854775808) (hb : b < 9223372036854775808) : bits .andNot .i64 (a : Int) (b : Int) = ((a &&& (18446744073709551615 - b) : Nat) : Int) :=
  unword (BitVec.ofInt 64 (a : Int) &&& ~~~BitVec.ofInt 64 (b : Int)) _ (by rw [BitVec.toNat_and, BitVec.toNat_not, word a ha, word b hb]) (Nat.lt_of_le_of_lt Nat.and_le_left ha)
theorem pow_le (k m : Nat) (h : k ≤ m) : 2 ^ k ≤ 2 ^ m := Nat.pow_le_pow_right (by omega) h
theorem wrap_pow (k : Nat) (h : k ≤ 40) : wrap64 ((2 : Int) ^ k) = ((2 ^ k : Nat) : Int) := by
  have h1 := pow_le k 40 h
  have e : ((2 : Int) ^ k) = ((2 ^ k : Nat) : Int) := by simp
  rw [e]
  obtain ⟨p, hp⟩ : ∃ p : Nat, p = 2 ^ k := ⟨_, rfl⟩
  rw [← hp] at h1 ⊢
  unfold wrap64
  omega
theorem or_pow (x k : Nat) (h : k ≤ 40) (hx : x < 9223372036854775808) : bits .or .i64 (x : Int) (wrap64 ((2 : Int) ^ k)) = ((x ||| 2 ^ k : Nat) : Int) := by
  have h1 := pow_le k 40 h
  rw [wrap_pow k h, i64_or_nat x _ hx (by omega)]

/-! ### pairs, edges -/
/-- A pair is made an edge, if bit is 1. -/
def lnk (g : List Nat) (a b bit : Nat) : List Nat := (g.set a (g[a]?.getD 0 ||| bit * 2 ^ b)).set b ((g.set a (g[a]?.getD 0 ||| bit * 2 ^ b))[b]?.getD 0 ||| bit * 2 ^ a)
theorem lnk_length (g : List Nat) (a b bit : Nat) : (lnk g a b bit).length = g.length := by simp [lnk]
theorem set_same (g : List Nat) (a : Nat) : g.set a (g[a]?.getD 0) = g := by
  apply List.ext_getElem?
  intro i
  rw [List.getElem?_set]
  split
  · rename_i e
    subst e
    by_cases h : a < g.length
    · simp [h]
    · simp [h]
  · rfl
theorem lnk_zero (g : List Nat) (a b : Nat) : lnk g a b 0 = g := by
  unfold lnk
  simp only [Nat.zero_mul, Nat.or_zero]
  rw [set_same, set_same]

theorem set_lt {g : List Nat} {m : Nat} (h : ∀ x ∈ g, x < m) (i y : Nat) (hy : y < m) : ∀ x ∈ g.set i y, x < m := by
  intro x hx
  rcases List.mem_or_eq_of_mem_set hx with h1 | h1
  · exact h x h1
  · omega
theorem get_lt {g : List Nat} {m : Nat} (h : ∀ x ∈ g, x < m) (i : Nat) (hm : 0 < m) : g[i]?.getD 0 < m := by
  by_cases hi : i < g.length
  · rw [List.getElem?_eq_getElem hi]; exact h _ (List.getElem_mem _)
  · rw [List.getElem?_eq_none (by omega)]; exact hm
theorem bit_pow {bit k : Nat} (hb : bit ≤ 1) (hk : k < 6) : bit * 2 ^ k < 2 ^ 6 := by
  have h1 : 2 ^ k ≤ 2 ^ 5 := pow_le k 5 (by omega)
  have h2 : bit * 2 ^ k ≤ 1 * 2 ^ k := Nat.mul_le_mul_right _ hb
  omega
theorem lnk_lt {g : List Nat} (h : ∀ x ∈ g, x < 2 ^ 6) (a b bit : Nat) (ha : a < 6) (hb : b < 6) (hbit : bit ≤ 1) : ∀ x ∈ lnk g a b bit, x < 2 ^ 6 := by
  have h1 := set_lt h a (g[a]?.getD 0 ||| bit * 2 ^ b) (Nat.or_lt_two_pow (get_lt h a (by omega)) (bit_pow hbit hb))
  exact set_lt h1 b _ (Nat.or_lt_two_pow (get_lt h1 b (by omega)) (bit_pow hbit ha))

/-- A graph and the number of pairs that are done, one pair more. -/
def stp (code : Nat) (st : List Nat × Nat) (p : Nat × Nat) : List Nat × Nat := (lnk st.1 p.1 p.2 (code / 2 ^ st.2 % 2), st.2 + 1)
def run (code n : Nat) (ps : List (Nat × Nat)) : List Nat × Nat := ps.foldl (stp code) (List.replicate n 0, 0)
theorem run_nil (code n : Nat) : run code n [] = (List.replicate n 0, 0) := rfl
theorem run_snoc (code n : Nat) (ps : List (Nat × Nat)) (p : Nat × Nat) : run code n (ps ++ [p]) = stp code (run code n ps) p := by simp [run]
theorem snoc_ind {α : Type} {P : List α → Prop} (h0 : P []) (h1 : ∀ l x, P l → P (l ++ [x])) (l : List α) : P l := by
  have h : ∀ m : List α, P m.reverse := by
    intro m
    induction m with
    | nil => exact h0
    | cons x m ih => rw [List.reverse_cons]; exact h1 _ _ ih
  have := h l.reverse
  rwa [List.reverse_reverse] at this
theorem run_at (code n : Nat) (ps : List (Nat × Nat)) : (run code n ps).2 = ps.length := by
  induction ps using snoc_ind with
  | h0 => rfl
  | h1 l x ih => rw [run_snoc, List.length_append]; show (run code n l).2 + 1 = _; rw [ih]; rfl
theorem run_length (code n : Nat) (ps : List (Nat × Nat)) : (run code n ps).1.length = n := by
  induction ps using snoc_ind with
  | h0 => simp [run_nil]
  | h1 l x ih => rw [run_snoc]; show (lnk _ _ _ _).length = _; rw [lnk_length, ih]
theorem run_lt (code n : Nat) (ps : List (Nat × Nat)) (h : ∀ p ∈ ps, p.1 < 6 ∧ p.2 < 6) : ∀ x ∈ (run code n ps).1, x < 2 ^ 6 := by
  induction ps using snoc_ind with
  | h0 => intro x hx; simp [run_nil] at hx; omega
  | h1 l y ih =>
    rw [run_snoc]
    obtain ⟨h1, h2⟩ := h y (by simp)
    exact lnk_lt (ih fun p hp => h p (by simp [hp])) _ _ _ h1 h2 (by omega)

/-- The pairs with a greater node below b, and those of b with a lesser node below a. -/
def rows (b : Nat) : List (Nat × Nat) := (List.range b).flatMap fun y => (List.range y).map fun x => (x, y)
def upto (b a : Nat) : List (Nat × Nat) := rows b ++ (List.range a).map fun x => (x, b)
theorem upto_zero (b : Nat) : upto b 0 = rows b := by simp [upto]
theorem upto_succ (b a : Nat) : upto b (a + 1) = upto b a ++ [(a, b)] := by simp [upto, List.range_succ]
theorem upto_end (b : Nat) : upto b b = rows (b + 1) := by simp [upto, rows, List.range_succ]
theorem rows_one : rows 1 = [] := rfl
theorem rows_mem (b : Nat) : ∀ p ∈ rows b, p.1 < p.2 ∧ p.2 < b := by
  intro p hp
  simp only [rows, List.mem_flatMap, List.mem_range, List.mem_map] at hp
  obtain ⟨y, hy, x, hx, rfl⟩ := hp
  exact ⟨hx, hy⟩
theorem upto_mem (b a : Nat) (h : a ≤ b) : ∀ p ∈ upto b a, p.1 < p.2 ∧ p.2 ≤ b := by
  intro p hp
  simp only [upto, List.mem_append, List.mem_map, List.mem_range] at hp
  rcases hp with hp | ⟨x, hx, rfl⟩
  · have := rows_mem b p hp; omega
  · exact ⟨by show x < b; omega, Nat.le_refl _⟩
theorem rows_length (b : Nat) (hb : b ≤ 6) : (rows b).length ≤ 15 := by
  have : ∀ b ≤ 6, (rows b).length ≤ 15 := by decide
  exact this b hb
theorem upto_length (b a : Nat) (hb : b ≤ 5) (ha : a ≤ b) : (upto b a).length ≤ 15 := by
  have : ∀ b ≤ 5, ∀ a ≤ b, (upto b a).length ≤ 15 := by decide
  exact this b hb a ha

theorem rows_pre (b m : Nat) (h : b ≤ m) : rows b <+: rows m := by
  induction m with
  | zero => have : b = 0 := by omega
            subst this; exact List.prefix_refl _
  | succ m ih =>
    by_cases e : b = m + 1
    · subst e; exact List.prefix_refl _
    · have h1 := ih (by omega)
      rw [← upto_end m]
      exact h1.trans (List.prefix_append _ _)
theorem upto_pre (b a m : Nat) (ha : a ≤ b) (h : b < m) : upto b a <+: rows m := by
  refine List.IsPrefix.trans ?_ (rows_pre (b + 1) m (by omega))
  rw [← upto_end]
  have e : (List.range b).map (fun x => (x, b)) = (List.range a).map (fun x => (x, b)) ++ ((List.range b).drop a).map fun x => (x, b) := by
    rw [← List.map_append]
    congr 1
    have h1 : List.range a = (List.range b).take a := by rw [List.take_range]; congr 1; omega
    rw [h1, List.take_append_drop]
  exact ⟨((List.range b).drop a).map fun x => (x, b), by unfold upto; rw [List.append_assoc, ← e]⟩

/-- The graph of n nodes with a code. -/
def ofCode (n code : Nat) : List Nat := (run code n (rows n)).1
theorem ofCode_length (n code : Nat) : (ofCode n code).length = n := run_length _ _ _

/-- What the loops' operations yield for one pair. -/
theorem bit_of (c k : Nat) (hc : c < 1048576) : bits .and .i64 ((c : Int) / 2 ^ k) 1 = ((c / 2 ^ k % 2 : Nat) : Int) := by
  have e : ((c : Int) / 2 ^ k) = ((c / 2 ^ k : Nat) : Int) := by simp
  have h1 : c / 2 ^ k ≤ c := Nat.div_le_self _ _
  rw [e]
  have := i64_and_nat (c / 2 ^ k) 1 (by omega) (by omega)
  rw [show ((1 : Nat) : Int) = 1 from rfl] at this
  rw [this, Nat.and_one_is_mod]
theorem wrap_bit (bit b p : Nat) (hb : bit ≤ 1) (hk : b < 6) (hp : p = bit * 2 ^ b) : wrap64 ((bit : Int) * 2 ^ b) = (p : Int) := by
  have h1 := bit_pow hb hk
  rw [← hp] at h1
  have e : (bit : Int) * 2 ^ b = (p : Int) := by rw [hp]; simp
  rw [e]
  unfold wrap64
  omega
end Go.Proofs.YtamabhdbcmjbjaaDoor

/- How calls end; make of a list of noughts. -/


namespace Go.Proofs.YtamabhdbcmjbjaaDoor
open Go.RowKit
set_option linter.unusedVariables false

/-- How a call that writes one row of its caller's, and hands back nothing, ends. -/
def Wrote (w : World) (B g : Nat) (v : Value) (L : List Nat) (e : Ending) (w' : World) : Prop := (∃ u, e = .returned u) ∧ Row w' B v (ints L) ∧ w.grownBy w' (some g)

theorem grown_set {a w : World} {g : Nat} (h : a.grownBy w (some g)) (i : Nat) (u : Value) : a.grownBy (w.setCell ⟨g, i, none⟩ u) (some g) :=
  World.grownBy.trans h ⟨rfl, rfl, rfl, by simp, fun k _ hk => Below.heap_setCell _ _ _ _ (fun e => hk (by simp [e]))⟩
theorem grown_drew {a w : World} {row : Option Nat} (h : a.grownBy w row) : a.grownBy w.drew row := World.grownBy.trans h ⟨rfl, rfl, rfl, Nat.le_refl _, fun _ _ _ => rfl⟩
theorem grown_drewN {a w : World} {row : Option Nat} (h : a.grownBy w row) (n : Nat) : a.grownBy (w.drewN n) row := World.grownBy.trans h ⟨rfl, rfl, rfl, Nat.le_refl _, fun _ _ _ => rfl⟩

/-! ### make -/
def madeW (w : World) (n : Nat) : World := w.alloc (.cells (madeCells #[.int .i64 0] (n * 1)) 3)
theorem madeW_row (w : World) (n : Nat) (hn : n ≤ 1048576) : Row (madeW w n) w.heap.size (.slice (some ⟨w.heap.size, 0, none⟩) n n) (ints (List.replicate n 0)) := by
  have h := World.ownsRow_lit (base := w.heap.size) (e := 3) (size := 1) w (madeCells #[.int .i64 0] (n * 1)) n (Nat.le_refl _) (by unfold maxLen; omega) (size_madeCells _ _)
  unfold Row madeW
  have e : (madeCells #[Value.int .i64 0] (n * 1)).toList = (ints (List.replicate n 0)).map (Value.int .i64) := by
    rw [Nat.mul_one, toList_madeCells_one]
    simp [ints]
  rw [e] at h
  rw [ints_length, List.length_replicate]
  exact h
theorem madeW_below (w : World) (n : Nat) : Below w.heap.size w (madeW w n) := (Below.refl _ _).alloc (Nat.le_refl _) _
theorem madeW_size (w : World) (n : Nat) : (madeW w n).heap.size = w.heap.size + 1 := by simp [madeW]

theorem infoInt : (Tryd.prog.info? 3).map (fun i => (i.zero, i.size, i.bytes)) = some (some (.int .i64 0), 1, 8) := by kernel_rfl
theorem run_make_of (t : TypeId) (ht : Tryd.prog.underlying t = some (.slice 3)) (n : Nat) (hn : n ≤ 1048576) (w : World) :
    (Instr.makeSlice t (.int .i64 (n : Int)) (.int .i64 (n : Int))).run Tryd.prog w = .ok (.slice (some ⟨w.heap.size, 0, none⟩) n n) (madeW w n) := by
  obtain ⟨i0, hi, hz0, hz1, hz2⟩ := info_parts infoInt
  have hr := run_make (P := Tryd.prog) w t 3 i0 (.int .i64 0) ht hi hz0 .i64 .i64 n n (by omega) (Int.le_refl _) (by rw [hz2]; omega) (by omega)
  simp only [Int.toNat_natCast, hz1] at hr
  exact hr
theorem run_make_ints (n : Nat) (hn : n ≤ 1048576) : ∀ w : World, (Instr.makeSlice 23 (.int .i64 (n : Int)) (.int .i64 (n : Int))).run Tryd.prog w = .ok (.slice (some ⟨w.heap.size, 0, none⟩) n n) (madeW w n) := run_make_of _ Tryd.underlying23 n hn
theorem run_make_graph (n : Nat) (hn : n ≤ 1048576) : ∀ w : World, (Instr.makeSlice 41 (.int .i64 (n : Int)) (.int .i64 (n : Int))).run Tryd.prog w = .ok (.slice (some ⟨w.heap.size, 0, none⟩) n n) (madeW w n) := run_make_of _ Tryd.underlying41 n hn

/-- How a call that makes a list ends. -/
def Gave (w : World) (L : List Int) (e : Ending) (w' : World) : Prop := ∃ v, e = .returned v ∧ Row w' w.heap.size v L ∧ Below w.heap.size w w'
/-- A call that answers a number, and changes nothing. -/
def Num (w : World) (x : Nat) (e : Ending) (w' : World) : Prop := e = .returned (.int .i64 (x : Nat)) ∧ w = w'
theorem empty_row (w : World) : Row (w.alloc (.cells #[] 3)) w.heap.size (.slice (some ⟨w.heap.size, 0, none⟩) 0 0) [] :=
  World.ownsRow_lit (base := w.heap.size) (e := 3) (size := 1) w #[] 0 (Nat.le_refl _) (by unfold maxLen; omega) rfl
end Go.Proofs.YtamabhdbcmjbjaaDoor

/- The model's l6In; the laws' toIntS: a list copied into memory of its own. -/


namespace Go.Proofs.YtamabhdbcmjbjaaDoor
open Go.RowKit
set_option linter.unusedVariables false


theorem in_yes (n lo hi : Int) (w : World) (h1 : lo ≤ n) (h2 : n ≤ hi) :
    Calls Tryd.prog 53 #[.int .i64 n, .int .i64 lo, .int .i64 hi] w fun e w' => e = .returned (.bool true) ∧ w = w' := by
  have e1 : decide (lo ≤ n) = true := by simpa using h1
  have e2 : decide (n ≤ hi) = true := by simpa using h2
  go_enter Tryd.func53, Tryd.ntmps53
  go_wp2
  go_ret
  exact ⟨rfl, rfl⟩
theorem in_low (n lo hi : Int) (w : World) (h1 : n < lo) :
    Calls Tryd.prog 53 #[.int .i64 n, .int .i64 lo, .int .i64 hi] w fun e w' => e = .returned (.bool false) ∧ w = w' := by
  have e1 : decide (lo ≤ n) = false := by simp; omega
  go_enter Tryd.func53, Tryd.ntmps53
  go_wp2
  go_ret
  exact ⟨rfl, rfl⟩
theorem in_high (n lo hi : Int) (w : World) (h1 : lo ≤ n) (h2 : hi < n) :
    Calls Tryd.prog 53 #[.int .i64 n, .int .i64 lo, .int .i64 hi] w fun e w' => e = .returned (.bool false) ∧ w = w' := by
  have e1 : decide (lo ≤ n) = true := by simpa using h1
  have e2 : decide (n ≤ hi) = false := by simp; omega
  go_enter Tryd.func53, Tryd.ntmps53
  go_wp2
  go_ret
  exact ⟨rfl, rfl⟩
/-- **l6In says whether a number is not below the one and not above the other.** -/
theorem in_any (n lo hi : Int) (w : World) :
    Calls Tryd.prog 53 #[.int .i64 n, .int .i64 lo, .int .i64 hi] w fun e w' => e = .returned (.bool (decide (lo ≤ n ∧ n ≤ hi))) ∧ w = w' := by
  by_cases h1 : lo ≤ n
  · by_cases h2 : n ≤ hi
    · exact (in_yes n lo hi w h1 h2).mono fun e w' ⟨he, hw⟩ => ⟨by rw [he]; exact ret_bool (by simp [h1, h2]), hw⟩
    · exact (in_high n lo hi w h1 (by omega)).mono fun e w' ⟨he, hw⟩ => ⟨by rw [he]; exact ret_bool (by simp [h2]), hw⟩
  · exact (in_low n lo hi w (by omega)).mono fun e w' ⟨he, hw⟩ => ⟨by rw [he]; exact ret_bool (by simp [h1]), hw⟩

/-! ### toIntS -/
/-- A slice that came in, or goes from call to call: its numbers are xs. -/
def Seen (w : World) (A : Option Addr) (xs : List Int) : Prop :=
  ∀ k, k < xs.length → ∃ b off, A = some ⟨b, off, none⟩ ∧ b < w.heap.size ∧ w.cell? ⟨b, off + k, none⟩ = some (.int .i64 (xs[k]?.getD 0))
theorem Seen.below {w w' : World} {A : Option Addr} {xs : List Int} (h : Seen w A xs) (hb : Below w.heap.size w w') : Seen w' A xs := fun k hk => by
  obtain ⟨b, off, hA, hlt, hc⟩ := h k hk
  exact ⟨b, off, hA, Nat.lt_of_lt_of_le hlt hb.size, (hb.cell (p := ⟨b, off + k, none⟩) hlt).trans hc⟩

/-- The first k places copied. -/
def copied (xs : List Int) (k : Nat) : List Int := xs.take k ++ List.replicate (xs.length - k) 0
theorem copied_zero (xs : List Int) : copied xs 0 = ints (List.replicate xs.length 0) := by simp [copied, ints]
theorem copied_all (xs : List Int) : copied xs xs.length = xs := by simp [copied]
theorem copied_length (xs : List Int) (k : Nat) (h : k ≤ xs.length) : (copied xs k).length = xs.length := by simp [copied]; omega
theorem copied_succ (xs : List Int) (k : Nat) (h : k < xs.length) : (copied xs k).set k (xs[k]?.getD 0) = copied xs (k + 1) := by
  unfold copied
  have hl : (xs.take k).length = k := by simp; omega
  have e : xs.length - k = (xs.length - (k + 1)) + 1 := by omega
  rw [List.set_append_right _ _ (by omega), hl, Nat.sub_self, e, List.replicate_succ, List.set_cons_zero, List.take_succ_eq_append_getElem h, List.append_assoc]
  simp [h]
end Go.Proofs.YtamabhdbcmjbjaaDoor

/- What a graph is, as plain mathematics; what the loops' operations yield. No condition. -/

namespace Go.Proofs.YtamabhdbcmjbjaaDoor
open Go Go.RowKit

/-- The number at a place, as a natural number; a bit of it. -/
def ent (L : List Int) (v : Nat) : Nat := (L[v]?.getD 0).toNat
def bt (L : List Int) (v w : Nat) : Nat := ent L v / 2 ^ w % 2
def InR (L : List Int) (v : Nat) : Prop := 0 ≤ L[v]?.getD 0 ∧ L[v]?.getD 0 < ((2 ^ L.length : Nat) : Int)
def RowOk (L : List Int) (v : Nat) : Prop := InR L v ∧ bt L v v = 0 ∧ ∀ w, w < v → bt L v w = bt L w v
def IsGraph (L : List Int) : Prop := 1 ≤ L.length ∧ L.length ≤ 6 ∧ ∀ v, v < L.length → RowOk L v

theorem ent_int {L : List Int} {v : Nat} (h : InR L v) : L[v]?.getD 0 = ((ent L v : Nat) : Int) := by unfold ent; unfold InR at h; omega
theorem ent_lt {L : List Int} {v : Nat} (h : InR L v) : ent L v < 2 ^ L.length := by unfold ent; unfold InR at h; omega
theorem two_le {n : Nat} (hn : n ≤ 6) : 2 ^ n ≤ 64 := pow_le n 6 hn
theorem two_pos (n : Nat) : 1 ≤ 2 ^ n := Nat.one_le_two_pow

/-- 1 << n, and one less, however the walk spells them. -/
theorem shl_facts (n : Nat) (hn : n ≤ 6) : ∃ P Q : Nat, P = 2 ^ n ∧ Q + 1 = P ∧ P ≤ 64 ∧ wrap64 ((2 : Int) ^ n) = (P : Int) ∧ IntKind.i64.wrap ((2 : Int) ^ n) = (P : Int) ∧ (P : Int) - 1 = (Q : Int) ∧ IntKind.i64.wrap ((P : Int) - 1) = (Q : Int) ∧ IntKind.i64.wrap (Q : Int) = (Q : Int) := by
  have h1 := two_le hn
  have h2 := two_pos n
  have h3 := wrap_pow n (by omega)
  have h4 : IntKind.i64.wrap ((2 : Int) ^ n) = wrap64 ((2 : Int) ^ n) := by rw [IntKind.wrap_i64]; unfold wrap64; rfl
  obtain ⟨P, hP⟩ : ∃ P, P = 2 ^ n := ⟨_, rfl⟩
  rw [← hP] at h1 h2 h3
  refine ⟨P, P - 1, hP, by omega, h1, h3, by rw [h4, h3], by omega, ?_, ?_⟩ <;> rw [IntKind.wrap_i64] <;> omega
/-- A bit of a small number. -/
theorem and_facts (x k : Nat) (hx : x < 1048576) : ∃ b : Nat, b = x / 2 ^ k % 2 ∧ b ≤ 1 ∧ bits .and .i64 ((x : Int) / 2 ^ k) 1 = (b : Int) :=
  ⟨x / 2 ^ k % 2, rfl, by omega, bit_of x k hx⟩
end Go.Proofs.YtamabhdbcmjbjaaDoor

/- math/bits.TrailingZeros of a number from 1 to 63, by the table that the program's text lays. -/


namespace Go.Proofs.YtamabhdbcmjbjaaDoor
open Go.RowKit
set_option linter.unusedVariables false

/-- The places of deBruijn64tab that small powers of two reach. -/
def Tab (w : World) : Prop := ∀ k : Nat, k < 6 → w.cell? ⟨1, 2 ^ k - 1, none⟩ = some (.int .u8 (k : Nat))
theorem Tab.lt {w : World} (h : Tab w) : 1 < w.heap.size := World.block_lt_of_cell? w _ (h 0 (by omega))
theorem Tab.below {w w' : World} {B : Nat} (h : Tab w) (hb : Below B w w') (hB : 2 ≤ B) : Tab w' := fun k hk => (hb.cell (p := ⟨1, 2 ^ k - 1, none⟩) (by show 1 < B; omega)).trans (h k hk)
theorem Tab.drewN {w : World} (h : Tab w) (n : Nat) : Tab (w.drewN n) := h

/-- The least node of a set of at most six nodes. -/
def tz (x : Nat) : Nat := if x % 2 = 1 then 0 else if x % 4 = 2 then 1 else if x % 8 = 4 then 2 else if x % 16 = 8 then 3 else if x % 32 = 16 then 4 else 5
theorem tz_lt (x : Nat) : tz x < 6 := by unfold tz; repeat (first | omega | split)
theorem zeros_word : ∀ x : Fin 64, 0 < x.val → IntKind.u64.wrap (bits .and .u64 (x.val : Int) (IntKind.u64.wrap (-(x.val : Int))) * 285870213051353865) / 288230376151711744 = ((2 ^ tz x.val - 1 : Nat) : Int) := by decide +kernel

set_option maxHeartbeats 1000000 in
theorem zeros64 (x : Nat) (w : World) (hx0 : 0 < x) (hx : x < 64) (h : Tab w) :
    Calls Tryd.prog 90 #[.int .u64 x] w fun e w' => e = .returned (.int .i64 (tz x)) ∧ w = w' := by
  have hz : ((x : Int) == 0) = false := by simp; omega
  have hE := zeros_word ⟨x, hx⟩ hx0
  dsimp only at hE
  have hc := h (tz x) (tz_lt x)
  have hk := tz_lt x
  have hp : 2 ^ tz x - 1 < 64 := by have := pow_le (tz x) 5 (by omega); omega
  obtain ⟨r, er⟩ : ∃ r, r = 2 ^ tz x - 1 := ⟨_, rfl⟩
  rw [← er] at hE hc hp
  obtain ⟨k, ek⟩ : ∃ k, k = tz x := ⟨_, rfl⟩
  rw [← ek] at hc hk ⊢
  clear er ek h
  go_enter Tryd.func90, Tryd.ntmps90
  go_wp2
  go_ret
  exact ⟨rfl, rfl⟩
set_option maxHeartbeats 1000000 in
theorem zeros_any (x : Nat) (w : World) (hx0 : 0 < x) (hx : x < 64) (h : Tab w) :
    Calls Tryd.prog 77 #[.int .u64 x] w fun e w' => e = .returned (.int .i64 (tz x)) ∧ w = w' := by
  go_enter Tryd.func77, Tryd.ntmps77
  go_wp2_with fail
  refine (zeros64 x _ hx0 hx h).mono ?_
  rintro e w1 ⟨rfl, rfl⟩
  go_wp2
  go_ret
  exact ⟨rfl, rfl⟩
end Go.Proofs.YtamabhdbcmjbjaaDoor

/- The iterator over the nodes of a set: the least one first, each one once; it stops where a round says so. -/













namespace Go.Proofs.YtamabhdbcmjbjaaDoor
open Go.RowKit Go.Shelf
attribute [local go_sem] Oper.semAt_some
set_option linter.unusedVariables false

/-- The nodes of a set, the least one first. -/
def nodesL (s : Nat) : List Nat := (List.range 6).filter fun i => s / 2 ^ i % 2 == 1
theorem nodes_zero : nodesL 0 = [] := by decide
theorem nodes_step : ∀ s : Fin 64, 0 < s.val → nodesL s.val = tz s.val :: nodesL (s.val &&& (s.val - 1)) ∧ s.val &&& (s.val - 1) < s.val ∧
    bits .and .u64 (s.val : Int) ((s.val : Int) - 1) = ((s.val &&& (s.val - 1) : Nat) : Int) := by decide +kernel
theorem nodes_mem {s v : Nat} : v ∈ nodesL s ↔ v < 6 ∧ s / 2 ^ v % 2 = 1 := by simp [nodesL]
theorem bit_lt {s v m : Nat} (hs : s < 2 ^ m) (h : s / 2 ^ v % 2 = 1) : v < m := by
  have h1 : 2 ^ v ≤ s := by
    refine Nat.le_of_not_lt fun hl => ?_
    rw [Nat.div_eq_of_lt hl] at h
    omega
  refine Nat.lt_of_not_le fun hl => ?_
  have := Nat.pow_le_pow_right (n := 2) (by omega) hl
  omega
theorem nodes_length (s : Nat) : (nodesL s).length ≤ 6 := by
  unfold nodesL
  exact Nat.le_trans (List.length_filter_le _ _) (by simp)

abbrev Nd (m s : Nat) := { v : Nat // v < m ∧ s / 2 ^ v % 2 = 1 }
abbrev encN (m s : Nat) (x : Nd m s) : Array Value := #[.int .i64 (x.1 : Int)]
def valsN {m s : Nat} (l : List (Nd m s)) : List Nat := l.map (·.1)
theorem valsN_snoc {m s : Nat} (l : List (Nd m s)) (x : Nd m s) : valsN (l ++ [x]) = valsN l ++ [x.1] := by simp [valsN]
theorem valsN_length {m s : Nat} (l : List (Nd m s)) : (valsN l).length = l.length := by simp [valsN]

set_option maxHeartbeats 1000000 in
theorem nodes_stops (n Bn m s n₀ : Nat) (hn : 1 ≤ n) (hm : m ≤ 6) (hs : s < 2 ^ m) (w : World) (hB : Bn < w.heap.size) (hc : w.cell? ⟨Bn, 0, none⟩ = some (.int .i64 s)) (hT : Tab w) (h2 : 2 ≤ n₀) (hn₀ : n₀ ≤ w.heap.size) :
    SeqStopsK Fence.wide n Tryd.prog 76 #[.pointer (some ⟨Bn, 0, none⟩)] (encN m s) (Below n₀) (fun xs => valsN xs = nodesL s) (fun pre => valsN pre <+: nodesL s) 6 w := fun l J Jx W hb hJ hJx hY h0 => by
  have hcW : W.cell? ⟨Bn, 0, none⟩ = some (.int .i64 s) := (hb.cell (p := ⟨Bn, 0, none⟩) hB).trans hc
  have hTW := Lib.hid (hT.below hb (by omega))
  have HY := Lib.hid hY
  have h64 := pow_le m 6 hm
  have hs0 : s < 64 := by omega
  have HS := Lib.hid hs
  clear hY hJ hJx hb hT hc h64 hs
  refine callsIn_of_wp Tryd.func76 rfl trivial ?_ rfl
  simp only [Tryd.ntmps76, List.size_toArray, List.length_cons, List.length_nil, Nat.reduceAdd, Nat.reduceSub, Array.replicate_succ, Array.replicate_zero, List.push_toArray, List.append_toArray, List.nil_append, List.cons_append]
  gi_wp2
  gi_loopw [3] (fun b wr => ∃ (r : Nat) (pre : List (Nd m s)), r < 64 ∧ b = .int .u64 r ∧ Hid (valsN pre ++ nodesL r = nodesL s) ∧ J pre wr ∧ Hid (Tab wr)) (fun b _ => (intOf b).toNat)
  case atStart => exact ⟨s, [], hs0, rfl, Lib.hid rfl, h0, hTW⟩
  case round =>
    obtain ⟨r, pre, hr64, rfl, hp, hJ, hT⟩ := hrel
    by_cases hr0 : 0 < r
    · have hz : ((r : Int) != 0) = true := by simp; omega
      obtain ⟨st1, st2, st3⟩ := nodes_step ⟨r, hr64⟩ hr0
      dsimp only at st1 st2 st3
      obtain ⟨q, eq⟩ : ∃ q, q = r &&& (r - 1) := ⟨_, rfl⟩
      rw [← eq] at st1 st2 st3
      have hmem : tz r ∈ nodesL s := by rw [← hp.out, st1]; simp
      have hbt := (nodes_mem.1 hmem).2
      have hlt : tz r < m := bit_lt HS.out hbt
      have hlen : pre.length < 6 := by
        have h1 := nodes_length s
        rw [← hp.out, st1, List.length_append, valsN_length] at h1
        simp at h1
        omega
      obtain ⟨fn, tmps, assign, body, hy, hR⟩ := HY.out pre ⟨tz r, hlt, hbt⟩ wr hJ hlen
      dsimp only [encN] at hy
      have ST := Lib.hid st1
      clear hlen hmem st1 eq
      gi_wp2_with (refine ⟨trivial, ?_⟩; gi_at_call 77; refine (callsIn_wide.2 (zeros_any r _ hr0 hr64 hT.out)).mono ?_; rintro e w' ⟨rfl, rfl⟩)
      refine hR.mono ?_
      rintro e W3 (⟨rfl, hJ3, hk3⟩ | ⟨rfl, hJx3⟩)
      · have hT3 := Lib.hid (hT.out.below hk3 h2)
        gi_wp2
        go_roundw
        case rel => exact ⟨q, _, by omega, rfl, Lib.hid (by rw [valsN_snoc, List.append_assoc, List.singleton_append, ← ST.out]; exact hp.out), hJ3, hT3⟩
        case measure => simp [intOf]; omega
      · gi_wp2
        refine bodyPost_ret (results_none rfl _ _ _) rfl ?_
        exact ⟨⟨_, rfl⟩, .inr ⟨_, ⟨nodesL q, (by rw [valsN_snoc, List.append_assoc, List.singleton_append, ← ST.out]; exact hp.out)⟩, hJx3⟩⟩
    · have hre : r = 0 := by omega
      subst hre
      gi_wp2
      go_end0
      exact ⟨⟨_, rfl⟩, .inl ⟨pre, by have h0 := hp.out; rw [nodes_zero, List.append_nil] at h0; exact h0, hJ⟩⟩

/-- nodesIn hands out its iterator; the set lies in a box. -/
theorem nodesIn_any (s : Nat) (w : World) : Calls Tryd.prog 59 #[.int .i64 s] w fun e w' =>
    e = .returned (.func (.func 76) #[] #[.pointer (some ⟨w.heap.size, 0, none⟩)]) ∧ w.alloc (.cells #[.int .i64 s] 3) = w' := by
  have hmf : ∀ (fn : Fn) (first cap : Array Value) (w : World), (Instr.makeFunc fn first cap).run Tryd.prog w = .ok (.func fn first cap) w := fun _ _ _ _ => rfl
  go_enter Tryd.func59, Tryd.ntmps59
  go_wp2
  go_ret
  exact ⟨rfl, rfl⟩
/-- all: the set of all nodes. -/
theorem all_any (A : Option Addr) (n c Q : Nat) (hn : n ≤ 6) (hQ : Q + 1 = 2 ^ n) (w : World) : Calls Tryd.prog 61 #[.slice A n c] w fun e w' => e = .returned (.int .i64 (Q : Nat)) ∧ w = w' := by
  have p1 := wrap_pow n (by omega)
  rw [← hQ] at p1
  have p2 : ((Q + 1 : Nat) : Int) - 1 = (Q : Int) := by omega
  obtain ⟨P, eP⟩ : ∃ P : Nat, P = Q + 1 := ⟨_, rfl⟩
  rw [← eP] at p1 p2
  have hP : P ≤ 64 := by have := two_le hn; omega
  clear hQ eP
  go_enter Tryd.func61, Tryd.ntmps61
  go_wp2
  go_ret
  exact ⟨rfl, rfl⟩
end Go.Proofs.YtamabhdbcmjbjaaDoor

/- The model's GraphIn: it tells graphs from other lists. -/


namespace Go.Proofs.YtamabhdbcmjbjaaDoor
open Go.RowKit
set_option linter.unusedVariables false

theorem Row.seen {w : World} {B : Nat} {v : Value} {xs : List Int} (h : Row w B v xs) : ∃ A c, v = .slice A xs.length c ∧ Seen w A xs := by
  obtain ⟨A, c, hv, hA⟩ := h.see
  refine ⟨A, c, hv, fun k hk => ?_⟩
  obtain ⟨g, hg, _, hc, _⟩ := hA k hk
  exact ⟨g, 0, hg, World.block_lt_of_cell? w _ hc, by rw [Nat.zero_add]; exact hc⟩
/-- How a call that only looks, and tells a bool, ends. -/
def Looked (w : World) (b : Bool) (e : Ending) (w' : World) : Prop := e = .returned (.bool b) ∧ ∃ n, w' = w.drewN n
theorem quiet_same {P : Program} {f : FuncId} {args : Array Value} {w : World} {v : Value} (h : Calls P f args w fun e w' => e = .returned v ∧ w = w') :
    Calls P f args w fun e w' => e = .returned v ∧ ∃ m, w' = w.drewN m := h.mono fun _ _ ⟨he, hw⟩ => ⟨he, 0, hw.symm⟩
theorem quiet_drewN {P : Program} {f : FuncId} {args : Array Value} {w : World} {v : Value} {k : Nat} (h : Calls P f args (w.drewN k) fun e w' => e = .returned v ∧ w.drewN k = w') :
    Calls P f args (w.drewN k) fun e w' => e = .returned v ∧ ∃ m, w' = w.drewN m := h.mono fun _ _ ⟨he, hw⟩ => ⟨he, k, hw.symm⟩

theorem looked_no {w wr : World} {L : List Int} {b : Bool} {m : Nat} (hb : b = true ↔ IsGraph L) (hno : ¬ IsGraph L) (ew : wr = w.drewN m) (k : Nat) : Looked w b (.returned (.bool false)) (wr.drewN k) := by
  have hf : b = false := by
    cases b with
    | false => rfl
    | true => exact absurd (hb.1 rfl) hno
  exact ⟨ret_bool hf.symm, m + k, by rw [ew, World.drewN_drewN]⟩

set_option maxHeartbeats 1000000 in
theorem specIn_size (A : Option Addr) (n c : Nat) (w : World) (h : n = 0 ∨ 6 < n) :
    Calls Tryd.prog 25 #[.slice A n c] w (Looked w false) := by
  rcases h with rfl | h
  · go_enter Tryd.func25, Tryd.ntmps25
    go_wp2_with fail
    refine (in_low _ _ _ _ (by omega)).mono ?_
    rintro e w1 ⟨rfl, rfl⟩
    go_wp2
    go_ret
    exact ⟨rfl, 0, rfl⟩
  · go_enter Tryd.func25, Tryd.ntmps25
    go_wp2_with fail
    refine (in_high _ _ _ _ (by omega) (by omega)).mono ?_
    rintro e w1 ⟨rfl, rfl⟩
    go_wp2
    go_ret
    exact ⟨rfl, 0, rfl⟩

set_option maxHeartbeats 4000000 in
theorem specIn_seen (A : Option Addr) (c : Nat) (L : List Int) (b : Bool) (hb : b = true ↔ IsGraph L) (w : World) (h : Seen w A L) (h1 : 1 ≤ L.length) (h6 : L.length ≤ 6) :
    Calls Tryd.prog 25 #[.slice A L.length c] w (Looked w b) := by
  obtain ⟨P, Q, hP, hQ, hP64, p1, p2, p3, p4, p5⟩ := shl_facts L.length h6
  obtain ⟨n, hn⟩ : ∃ n, n = L.length := ⟨_, rfl⟩
  rw [← hn] at h1 h6 p1 p2 hP ⊢
  have HN := Lib.hid hn
  have H := Lib.hid h
  have HB := Lib.hid hb
  have HP := Lib.hid hP
  have HQ := Lib.hid hQ
  have PF := Lib.hid (And.intro p1 (And.intro p2 (And.intro p3 (And.intro p4 p5))))
  clear h hb hn hP hQ p1 p2 p3 p4 p5
  go_enter Tryd.func25, Tryd.ntmps25
  go_wp2_with fail
  refine (in_yes _ _ _ _ (by omega) (by omega)).mono ?_
  rintro e w1 ⟨rfl, rfl⟩
  go_wp2
  go_loopw [3] (fun i wr => ∃ v m : Nat, v ≤ n ∧ i = .int .i64 v ∧ Hid (∀ u, u < v → RowOk L u) ∧ wr = w.drewN m) (fun i _ => n - (intOf i).toNat)
  case atStart => exact ⟨0, 0, Nat.zero_le _, rfl, Lib.hid (fun u hu => absurd hu (by omega)), rfl⟩
  case round =>
    obtain ⟨v, m, hv, rfl, hok, ew⟩ := hrel
    have EW := Lib.hid ew
    by_cases hlt : v < n
    · obtain ⟨blk, off, rfl, hbl, hc⟩ := H.out v (by have := HN.out; omega)
      have hcw : wr.cell? ⟨blk, off + v, none⟩ = some (.int .i64 (L[v]?.getD 0)) := by rw [ew]; exact hc
      have hi1 : (0 : Int) ≤ (v : Int) ∧ (v : Int) < (n : Int) := by omega
      clear hc hbl ew
      by_cases hin : InR L v
      · have hX := ent_int hin
        have hX2 := ent_lt hin
        obtain ⟨X, eX⟩ : ∃ X, X = ent L v := ⟨_, rfl⟩
        rw [← eX] at hX hX2
        rw [hX] at hcw
        rw [← HN.out, ← HP.out] at hX2
        obtain ⟨p1, p2, p3, p4, p5⟩ := PF.out
        have hXQ : (X : Int) ≤ (Q : Int) := by have := HQ.out; omega
        have hX0 : (0 : Int) ≤ (X : Int) := by omega
        obtain ⟨bit, ebit, hbit, f1⟩ := and_facts X v (by omega)
        have EX := Lib.hid eX
        have EB := Lib.hid ebit
        have HI := Lib.hid hin
        clear hin hX hX2 eX ebit
        by_cases hb1 : bit = 1
        · have hno : ¬ IsGraph L := fun hg => by
            have h0 := (hg.2.2 v (by have := HN.out; omega)).2.1
            unfold bt at h0
            rw [← EX.out, ← EB.out] at h0
            omega
          subst hb1
          go_wp2
          go_quiet ((go_at_call 53; exact quiet_drewN (in_yes _ _ _ _ hX0 hXQ)))
          go_wp2
          go_ret
          exact looked_no HB.out hno EW.out _
        · have hb0 : bit = 0 := by omega
          subst hb0
          go_wp2
          go_quiet ((go_at_call 53; exact quiet_drewN (in_yes _ _ _ _ hX0 hXQ)))
          go_wp2
          clear p1 p2 p3 p4 p5 f1 hcw
          obtain ⟨wo, ewo⟩ : ∃ wo : World, wo = wr.drewN nq := ⟨_, rfl⟩
          rw [← ewo]
          have EO := Lib.hid ewo
          clear ewo
          obtain ⟨wq, rfl⟩ : ∃ wq : World, wq = wr := ⟨_, rfl⟩
          go_loopw [4] (fun i wr => ∃ u m : Nat, u ≤ v ∧ i = .int .i64 u ∧ Hid (∀ t, t < u → bt L v t = bt L t v) ∧ wr = wo.drewN m) (fun i _ => v - (intOf i).toNat)
          case atStart => exact ⟨0, 0, Nat.zero_le _, rfl, Lib.hid (fun u hu => absurd hu (by omega)), rfl⟩
          case round =>
            obtain ⟨u, m2, hu, rfl, hsy, ew2⟩ := hrel
            have EW2 := Lib.hid ew2
            have ALL : wr = w.drewN (m + nq + m2) := by rw [ew2, EO.out, EW.out, World.drewN_drewN, World.drewN_drewN, Nat.add_assoc]
            have EA := Lib.hid ALL
            clear ALL ew2
            by_cases hlu : u < v
            · obtain ⟨blk2, off2, hA2, hbl2, hc2⟩ := H.out u (by have := HN.out; omega)
              obtain ⟨blk1, off1, hA1, hbl1, hc1⟩ := H.out v (by have := HN.out; omega)
              have e1 : blk = blk1 ∧ off = off1 := by injection hA1 with e; injection e with e1 e2; exact ⟨e1, e2⟩
              have e2 : blk = blk2 ∧ off = off2 := by injection hA2 with e; injection e with e1 e2; exact ⟨e1, e2⟩
              obtain ⟨rfl, rfl⟩ := e1
              obtain ⟨rfl, rfl⟩ := e2
              have hinu := (hok.out u hlu).1
              have hY := ent_int hinu
              have hY2 := ent_lt hinu
              obtain ⟨Y, eY⟩ : ∃ Y, Y = ent L u := ⟨_, rfl⟩
              have hX := ent_int HI.out
              rw [← EX.out] at hX
              rw [← eY] at hY hY2
              rw [hX] at hc1
              rw [hY] at hc2
              have h64 := two_le (n := L.length) (by have := HN.out; omega)
              have hcv : wr.cell? ⟨blk, off + v, none⟩ = some (.int .i64 X) := by rw [EA.out]; exact hc1
              have hcu : wr.cell? ⟨blk, off + u, none⟩ = some (.int .i64 Y) := by rw [EA.out]; exact hc2
              obtain ⟨b1, eb1, hb1, f1⟩ := and_facts X u (by have := HQ.out; omega)
              obtain ⟨b2, eb2, hb2, f2⟩ := and_facts Y v (by omega)
              have E1 : b1 = bt L v u := by unfold bt; rw [← EX.out]; exact eb1
              have E2 : b2 = bt L u v := by unfold bt; rw [← eY]; exact eb2
              have D1 := Lib.hid E1
              have D2 := Lib.hid E2
              have hi2 : (0 : Int) ≤ (u : Int) ∧ (u : Int) < (n : Int) := by omega
              clear hA1 hA2 hbl1 hbl2 hc1 hc2 hinu hX hY hY2 eY eb1 eb2 E1 E2 h64 hb1 hb2
              by_cases hbb : b1 = b2
              · have hne : ((b1 : Int) != (b2 : Int)) = false := by simp [hbb]
                have HBB := Lib.hid hbb
                clear hbb
                go_wp2
                go_quiet (fail)
                go_wp2
                go_roundw
                case rel => exact ⟨u + 1, _, by omega, by go_num, Lib.hid (fun t ht => by
                  rcases Nat.lt_succ_iff_lt_or_eq.1 ht with h | h
                  · exact hsy.out t h
                  · subst h; rw [← D1.out, ← D2.out, HBB.out]), by rw [EW2.out, World.drewN_drewN]⟩
                case measure => simp [intOf]; omega
              · have hne : ((b1 : Int) != (b2 : Int)) = true := by simp; omega
                have hno : ¬ IsGraph L := fun hg => hbb (by rw [D1.out, D2.out]; exact (hg.2.2 v (by have := HN.out; omega)).2.2 u hlu)
                clear hbb
                go_wp2
                go_quiet (fail)
                go_wp2
                go_ret
                exact looked_no HB.out hno EA.out _
            · have huv : u = v := by omega
              subst huv
              go_wp2
              go_roundw
              case rel => exact ⟨u + 1, _, by omega, by go_num, Lib.hid (fun t ht => by
                rcases Nat.lt_succ_iff_lt_or_eq.1 ht with h | h
                · exact hok.out t h
                · subst h; exact ⟨HI.out, by unfold bt; rw [← EX.out, ← EB.out], hsy.out⟩), EA.out⟩
              case measure => simp [intOf]; omega
      · obtain ⟨x, ex⟩ : ∃ x, x = L[v]?.getD 0 := ⟨_, rfl⟩
        have hx : x < 0 ∨ (Q : Int) < x := by
          have h0 := HP.out
          have h2 := HQ.out
          have h3 := HN.out
          unfold InR at hin
          rw [← ex, ← h3, ← h0] at hin
          omega
        rw [← ex] at hcw
        have hno : ¬ IsGraph L := fun hg => hin (hg.2.2 v (by have := HN.out; omega)).1
        obtain ⟨p1, p2, p3, p4, p5⟩ := PF.out
        clear hin ex
        by_cases hx0 : x < 0
        · clear hx
          go_wp2
          go_quiet ((go_at_call 53; exact quiet_drewN (in_low _ _ _ _ hx0)))
          go_wp2
          go_ret
          exact looked_no HB.out hno EW.out _
        · have hx1 : (0 : Int) ≤ x := by omega
          have hx2 : (Q : Int) < x := by omega
          clear hx hx0
          go_wp2
          go_quiet ((go_at_call 53; exact quiet_drewN (in_high _ _ _ _ hx1 hx2)))
          go_wp2
          go_ret
          exact looked_no HB.out hno EW.out _
    · have hvn : v = n := by omega
      subst hvn
      go_wp2
      go_ret
      have hyes : IsGraph L := ⟨by have := HN.out; omega, by have := HN.out; omega, by rw [← HN.out]; exact hok.out⟩
      exact ⟨ret_bool (HB.out.2 hyes).symm, m, by first | exact EW.out | rfl⟩

/-- **The model's GraphIn, at each list.** -/
theorem specIn_any (B : Nat) (v : Value) (L : List Int) (b : Bool) (hb : b = true ↔ IsGraph L) (w : World) (h : Row w B v L) :
    Calls Tryd.prog 25 #[v] w (Looked w b) := by
  obtain ⟨A, c, rfl, hs⟩ := h.seen
  by_cases hl : 1 ≤ L.length ∧ L.length ≤ 6
  · exact specIn_seen A c L b hb w hs hl.1 hl.2
  · have hf : b = false := by
      cases b with
      | false => rfl
      | true => exact absurd ((hb.1 rfl)) (fun hg => hl ⟨hg.1, hg.2.1⟩)
    subst hf
    exact specIn_size A L.length c w (by omega)

end Go.Proofs.YtamabhdbcmjbjaaDoor

/- hasSet, edge, nodes: what the program's small methods tell of a graph. -/


namespace Go.Proofs.YtamabhdbcmjbjaaDoor
open Go.RowKit Go.Shelf
set_option linter.unusedVariables false

theorem hasSet_yes (A : Option Addr) (n c Q : Nat) (x : Int) (hn : n ≤ 6) (hQ : Q + 1 = 2 ^ n) (w : World) (h0 : 0 ≤ x) (h1 : x ≤ (Q : Int)) :
    Calls Tryd.prog 30 #[.slice A n c, .int .i64 x] w fun e w' => e = .returned (.bool true) ∧ w = w' := by
  have d0 : decide (0 ≤ x) = true := by simpa using h0
  have d1 : decide (x ≤ (Q : Int)) = true := by simpa using h1
  have HQ := Lib.hid hQ
  clear hQ
  go_enter Tryd.func30, Tryd.ntmps30
  go_wp2_with fail
  refine (all_any A n c Q hn HQ.out _).mono ?_
  rintro e w1 ⟨rfl, rfl⟩
  go_wp2
  go_ret
  exact ⟨rfl, rfl⟩
theorem hasSet_low (A : Option Addr) (n c : Nat) (x : Int) (w : World) (h0 : x < 0) :
    Calls Tryd.prog 30 #[.slice A n c, .int .i64 x] w fun e w' => e = .returned (.bool false) ∧ w = w' := by
  have d0 : decide (0 ≤ x) = false := by simp; omega
  go_enter Tryd.func30, Tryd.ntmps30
  go_wp2
  go_ret
  exact ⟨rfl, rfl⟩
theorem hasSet_high (A : Option Addr) (n c Q : Nat) (x : Int) (hn : n ≤ 6) (hQ : Q + 1 = 2 ^ n) (w : World) (h0 : 0 ≤ x) (h1 : (Q : Int) < x) :
    Calls Tryd.prog 30 #[.slice A n c, .int .i64 x] w fun e w' => e = .returned (.bool false) ∧ w = w' := by
  have d0 : decide (0 ≤ x) = true := by simpa using h0
  have d1 : decide (x ≤ (Q : Int)) = false := by simp; omega
  have HQ := Lib.hid hQ
  clear hQ
  go_enter Tryd.func30, Tryd.ntmps30
  go_wp2_with fail
  refine (all_any A n c Q hn HQ.out _).mono ?_
  rintro e w1 ⟨rfl, rfl⟩
  go_wp2
  go_ret
  exact ⟨rfl, rfl⟩
/-- **hasSet says whether a number is a set of nodes.** -/
theorem hasSet_any (A : Option Addr) (n c : Nat) (x : Int) (hn : n ≤ 6) (w : World) :
    Calls Tryd.prog 30 #[.slice A n c, .int .i64 x] w fun e w' => e = .returned (.bool (decide (0 ≤ x ∧ x < ((2 ^ n : Nat) : Int)))) ∧ w = w' := by
  have hp := two_pos n
  obtain ⟨Q, hQ⟩ : ∃ Q, Q + 1 = 2 ^ n := ⟨2 ^ n - 1, by omega⟩
  by_cases h0 : 0 ≤ x
  · by_cases h1 : x ≤ (Q : Int)
    · exact (hasSet_yes A n c Q x hn hQ w h0 h1).mono fun e w' ⟨he, hw⟩ => ⟨by rw [he]; exact ret_bool (by symm; simp only [decide_eq_true_eq]; omega), hw⟩
    · exact (hasSet_high A n c Q x hn hQ w h0 (by omega)).mono fun e w' ⟨he, hw⟩ => ⟨by rw [he]; exact ret_bool (by symm; simp only [decide_eq_false_iff_not]; omega), hw⟩
  · exact (hasSet_low A n c x w (by omega)).mono fun e w' ⟨he, hw⟩ => ⟨by rw [he]; exact ret_bool (by symm; simp only [decide_eq_false_iff_not]; omega), hw⟩

/-- **edge tells a bit.** -/
theorem edge_any (b off n c a k X : Nat) (w : World) (hX : X < 1048576) (ha : a < n) (hk : k < 40) (hc : w.cell? ⟨b, off + a, none⟩ = some (.int .i64 X)) :
    Calls Tryd.prog 60 #[.slice (some ⟨b, off, none⟩) n c, .int .i64 a, .int .i64 k] w fun e w' => e = .returned (.bool (X / 2 ^ k % 2 == 1)) ∧ w = w' := by
  have hi1 : (0 : Int) ≤ (a : Int) ∧ (a : Int) < (n : Int) := by omega
  obtain ⟨bit, eb, hb, f1⟩ := and_facts X k hX
  rw [← eb]
  have e1 : ((bit : Int) == 1) = (bit == 1) := by rw [Bool.eq_iff_iff]; simp; omega
  clear eb
  go_enter Tryd.func60, Tryd.ntmps60
  go_wp2
  go_ret
  exact ⟨rfl, rfl⟩

/-- nodes hands out the iterator over all nodes. -/
theorem nodes_any (A : Option Addr) (n c Q : Nat) (hn : n ≤ 6) (hQ : Q + 1 = 2 ^ n) (w : World) : Calls Tryd.prog 52 #[.slice A n c] w fun e w' =>
    e = .returned (.func (.func 76) #[] #[.pointer (some ⟨w.heap.size, 0, none⟩)]) ∧ w.alloc (.cells #[.int .i64 (Q : Nat)] 3) = w' := by
  have HQ := Lib.hid hQ
  clear hQ
  go_enter Tryd.func52, Tryd.ntmps52
  go_wp2_with fail
  refine (all_any A n c Q hn HQ.out _).mono ?_
  rintro e w1 ⟨rfl, rfl⟩
  go_wp2_with fail
  refine (nodesIn_any Q _).mono ?_
  rintro e w1 ⟨rfl, rfl⟩
  go_wp2
  go_ret
  exact ⟨rfl, rfl⟩
end Go.Proofs.YtamabhdbcmjbjaaDoor

/- asGraph: it hands a graph on as it came, and refuses each other list. -/


namespace Go.Proofs.YtamabhdbcmjbjaaDoor
open Go.RowKit Go.Shelf
attribute [local go_sem] Oper.semAt_some
set_option linter.unusedVariables false

theorem isGraph_of_pairs {L : List Int} (h1 : 1 ≤ L.length) (h6 : L.length ≤ 6) (hr : ∀ v, v < L.length → InR L v)
    (h : ∀ v, v < L.length → ∀ u ∈ nodesL (ent L v), u ≠ v ∧ bt L u v = 1) : IsGraph L := by
  have key : ∀ v u, v < L.length → u < L.length → bt L v u = 1 → u ≠ v ∧ bt L u v = 1 := fun v u hv hu hb =>
    h v hv u (nodes_mem.2 ⟨by omega, hb⟩)
  refine ⟨h1, h6, fun v hv => ⟨hr v hv, ?_, fun w hw => ?_⟩⟩
  · have h0 : bt L v v = 0 ∨ bt L v v = 1 := by unfold bt; omega
    rcases h0 with h0 | h0
    · exact h0
    · exact absurd rfl (key v v hv hv h0).1
  · have h0 : bt L v w = 0 ∨ bt L v w = 1 := by unfold bt; omega
    have h2 : bt L w v = 0 ∨ bt L w v = 1 := by unfold bt; omega
    rcases h0 with h0 | h0
    · rcases h2 with h2 | h2
      · rw [h0, h2]
      · have := (key w v (by omega) hv h2).2; omega
    · have := (key v w hv (by omega) h0).2; omega
theorem pairs_of_isGraph {L : List Int} (hg : IsGraph L) {v u : Nat} (hv : v < L.length) (hu : u ∈ nodesL (ent L v)) : u ≠ v ∧ bt L u v = 1 := by
  have hb := (nodes_mem.1 hu).2
  have hlt : u < L.length := bit_lt (ent_lt (hg.2.2 v hv).1) hb
  have e : bt L v u = 1 := hb
  have hne : u ≠ v := fun e' => by
    subst e'
    have := (hg.2.2 u hv).2.1
    omega
  refine ⟨hne, ?_⟩
  by_cases h : u < v
  · rw [← (hg.2.2 v hv).2.2 u h]; exact e
  · rw [(hg.2.2 u hlt).2.2 v (by omega)]; exact e

theorem full_bit {Q n v : Nat} (hQ : Q + 1 = 2 ^ n) (hv : v < n) : Q / 2 ^ v % 2 = 1 := by
  have hp := Nat.two_pow_pos v
  have e : 2 ^ n = 2 ^ v * (2 * 2 ^ (n - v - 1)) := by
    rw [← Nat.mul_assoc, ← Nat.pow_succ, ← Nat.pow_add]
    congr 1
    omega
  have e2 : Q = (2 ^ v - 1) + 2 ^ v * (2 * 2 ^ (n - v - 1) - 1) := by
    have h1 : 1 ≤ 2 ^ (n - v - 1) := Nat.one_le_two_pow
    obtain ⟨m, hm⟩ : ∃ m, 2 * 2 ^ (n - v - 1) = m + 1 := ⟨2 * 2 ^ (n - v - 1) - 1, by omega⟩
    rw [hm] at e ⊢
    rw [Nat.mul_add] at e
    simp only [Nat.add_sub_cancel]
    omega
  rw [e2, Nat.add_mul_div_left _ _ hp, Nat.div_eq_of_lt (by omega)]
  have h1 : 1 ≤ 2 ^ (n - v - 1) := Nat.one_le_two_pow
  omega

/-- How asGraph ends. -/
def AsG (w : World) (v : Value) (b : Bool) (e : Ending) (w' : World) : Prop := e = .returned (.tuple #[if b then v else .slice none 0 0, .bool b]) ∧ Below w.heap.size w w'

theorem asG_no {w w' : World} {v : Value} {L : List Int} {b : Bool} (hb : b = true ↔ IsGraph L) (hno : ¬ IsGraph L) (h : Below w.heap.size w w') : AsG w v b (.returned (.tuple #[.slice none 0 0, .bool false])) w' := by
  have hf : b = false := by
    cases b with
    | false => rfl
    | true => exact absurd (hb.1 rfl) hno
  subst hf
  exact ⟨rfl, h⟩
theorem asG_yes {w w' : World} {v : Value} {L : List Int} {b : Bool} (hb : b = true ↔ IsGraph L) (hg : IsGraph L) (h : Below w.heap.size w w') : AsG w v b (.returned (.tuple #[v, .bool true])) w' := by
  have hf : b = true := hb.2 hg
  subst hf
  exact ⟨rfl, h⟩

/-- The boxes of asGraph's two results and of its graph. -/
def Boxed3 (n₀ : Nat) (S : Value) (W : World) : Prop := Boxed W n₀ 41 (.slice none 0 0) ∧ Boxed W (n₀ + 1) 4 (.bool false) ∧ Boxed W (n₀ + 1 + 1) 41 S
theorem Boxed3.alloc {n₀ : Nat} {S : Value} {W : World} (h : Boxed3 n₀ S W) (o : Obj) : Boxed3 n₀ S (W.alloc o) := ⟨h.1.alloc o, h.2.1.alloc o, h.2.2.alloc o⟩
theorem boxed3_own {β : Type} (n₀ : Nat) (S : Value) : Own (fun (_ : β) W => Boxed3 n₀ S W) := fun s X Y row hs hg hr =>
  ⟨boxed_own _ _ (fun _ : Unit => _) () X Y row hs.1 hg hr, boxed_own _ _ (fun _ : Unit => _) () X Y row hs.2.1 hg hr, boxed_own _ _ (fun _ : Unit => _) () X Y row hs.2.2 hg hr⟩
/-- The results set to none and false again. -/
theorem Boxed3.reset {n₀ : Nat} {S : Value} {W : World} (h : Boxed3 n₀ S W) : Boxed3 n₀ S ((W.setCell ⟨n₀, 0, none⟩ (.slice none 0 0)).setCell ⟨n₀ + 1, 0, none⟩ (.bool false)) :=
  ⟨(h.1.set _).other (by omega) _, (h.2.1.other (by omega) _).set _, (h.2.2.other (by omega) _).other (by omega) _⟩

set_option maxRecDepth 100000 in
set_option maxHeartbeats 4000000 in
theorem asG_seen (A : Option Addr) (c : Nat) (L : List Int) (b : Bool) (hb : b = true ↔ IsGraph L) (w : World) (h : Seen w A L) (hT : Tab w) (h1 : 1 ≤ L.length) (h6 : L.length ≤ 6) :
    CallsIn Fence.wide 9 Tryd.prog 29 #[.slice A L.length c] w (AsG w (.slice A L.length c) b) := by
  obtain ⟨blk, off, hA0, hbl0, _⟩ := h 0 (by omega)
  obtain ⟨n, hn⟩ : ∃ n, n = L.length := ⟨_, rfl⟩
  have hp := two_pos n
  obtain ⟨Q, hQ⟩ : ∃ Q, Q + 1 = 2 ^ n := ⟨2 ^ n - 1, by omega⟩
  rw [← hn] at h1 h6 ⊢
  subst hA0
  have HN := Lib.hid hn
  have H := Lib.hid h
  have HB := Lib.hid hb
  have HQ := Lib.hid hQ
  have TB := Lib.hid hT
  have hd1 : decide ((n : Int) < 1) = false := by simp; omega
  have hd2 : decide ((6 : Int) < (n : Int)) = false := by simp; omega
  clear h hb hn hQ hT hp
  refine callsIn_of_wp_marks Tryd.func29 rfl trivial ?_ rfl
  simp only [Tryd.ntmps29, List.size_toArray, List.length_cons, List.length_nil, Nat.reduceAdd, Nat.reduceSub, Array.replicate_succ, Array.replicate_zero, List.push_toArray, List.append_toArray, List.nil_append, List.cons_append]
  gi_wp2
  obtain ⟨W0, e0⟩ : ∃ W0, W0 = ((w.alloc (.cells #[.slice none 0 0] 41)).alloc (.cells #[.bool false] 4)).alloc (.cells #[.slice (some ⟨blk, off, none⟩) n c] 41) := ⟨_, rfl⟩
  have X0 : Boxed W0 w.heap.size 41 (.slice none 0 0) := by rw [e0]; exact ((Boxed.new w 41 (.slice none 0 0)).alloc _).alloc _
  have X1 : Boxed W0 (w.heap.size + 1) 4 (.bool false) := by
    rw [e0]; have h := Boxed.new (w.alloc (.cells #[.slice none 0 0] 41)) 4 (.bool false); rw [World.size_alloc] at h; exact h.alloc _
  have X2 : Boxed W0 (w.heap.size + 1 + 1) 41 (.slice (some ⟨blk, off, none⟩) n c) := by
    rw [e0]; have h := Boxed.new ((w.alloc (.cells #[.slice none 0 0] 41)).alloc (.cells #[.bool false] 4)) 41 (.slice (some ⟨blk, off, none⟩) n c); rw [World.size_alloc, World.size_alloc] at h; exact h
  have hB0 : Below w.heap.size w W0 := by rw [e0]; exact ((((Below.refl _ w).alloc (Nat.le_refl _) _).alloc (by simp) _).alloc (by simp; omega) _)
  have hs0 : W0.heap.size = w.heap.size + 1 + 1 + 1 := by rw [e0]; simp
  rw [← e0]
  clear e0
  obtain ⟨n₀, en⟩ : ∃ n₀, n₀ = w.heap.size := ⟨_, rfl⟩
  have h2 : 2 ≤ n₀ := by have := TB.out.lt; omega
  rw [← en] at X0 X1 X2 hB0 hs0 hbl0 ⊢
  have EN := Lib.hid en
  have HS0 := Lib.hid hs0
  have hle : n₀ ≤ w.heap.size := by omega
  have hleW : n₀ + 1 + 1 < W0.heap.size := by omega
  have Y0 := Lib.hid X0
  have Y1 := Lib.hid X1
  have Y2 := Lib.hid X2
  have x0 := X0.cell
  have x1 := X1.cell
  have x2 := X2.cell
  have g0 := X0.frozen
  have g1 := X1.frozen
  clear en hs0 X0 X1 X2
  gi_loopw [20] (fun i wr => ∃ k : Nat, k ≤ n ∧ i = .int .i64 k ∧ Hid (∀ v, v < k → InR L v) ∧ wr = W0) (fun i _ => n - (intOf i).toNat)
  case atStart => exact ⟨0, Nat.zero_le _, rfl, Lib.hid (fun u hu => absurd hu (by omega)), rfl⟩
  case round =>
    obtain ⟨k, hk, rfl, hok, rfl⟩ := hrel
    by_cases hlt : k < n
    · obtain ⟨blk1, off1, hA1, hbl1, hc1⟩ := H.out k (by have := HN.out; omega)
      have e1 : blk = blk1 ∧ off = off1 := by injection hA1 with e; injection e with e1 e2; exact ⟨e1, e2⟩
      obtain ⟨rfl, rfl⟩ := e1
      have hcw : wr.cell? ⟨blk, off + k, none⟩ = some (.int .i64 (L[k]?.getD 0)) := (hB0.cell (p := ⟨blk, off + k, none⟩) hbl0).trans hc1
      obtain ⟨x, ex⟩ : ∃ x, x = L[k]?.getD 0 := ⟨_, rfl⟩
      rw [← ex] at hcw
      have hi1 : (0 : Int) ≤ (k : Int) ∧ (k : Int) < (n : Int) := by omega
      have EX := Lib.hid ex
      clear hA1 hbl1 hc1 ex
      by_cases hin : 0 ≤ x ∧ x < ((2 ^ n : Nat) : Int)
      · have hd : decide (0 ≤ x ∧ x < ((2 ^ n : Nat) : Int)) = true := decide_eq_true hin
        have HI := Lib.hid hin
        clear hin
        gi_wp2_with (refine ⟨trivial, ?_⟩; gi_at_call 30; refine (callsIn_wide.2 (hasSet_any _ n c x h6 _)).mono ?_; rw [hd]; rintro e w' ⟨rfl, rfl⟩)
        go_roundw
        case rel => exact ⟨k + 1, by omega, by go_num, Lib.hid (fun v hv => by
          rcases Nat.lt_succ_iff_lt_or_eq.1 hv with h | h
          · exact hok.out v h
          · subst h; unfold InR; rw [← EX.out, ← HN.out]; exact HI.out), trivial⟩
        case measure => simp [intOf]; omega
      · have hd : decide (0 ≤ x ∧ x < ((2 ^ n : Nat) : Int)) = false := decide_eq_false hin
        have hno : ¬ IsGraph L := fun hg => hin (by have h0 := (hg.2.2 k (by have := HN.out; omega)).1; unfold InR at h0; rw [← EX.out, ← HN.out] at h0; exact h0)
        clear hin
        gi_wp2_with (refine ⟨trivial, ?_⟩; gi_at_call 30; refine (callsIn_wide.2 (hasSet_any _ n c x h6 _)).mono ?_; rw [hd]; rintro e w' ⟨rfl, rfl⟩)
        have z0 := (((Y0.out.set (.slice none 0 0)).other (show n₀ ≠ n₀ + 1 by omega) (.bool false))).cell
        have z1 := ((Y1.out.other (show n₀ + 1 ≠ n₀ by omega) (.slice none 0 0)).set (.bool false)).cell
        refine ⟨.tuple #[.slice none 0 0, .bool false], by simp [results, Tryd.f29, go_sem, z0, z1], ?_⟩
        exact asG_no HB.out hno (by rw [← EN.out]; exact (hB0.setCell (p := ⟨n₀, 0, none⟩) (Nat.le_refl _) _).setCell (p := ⟨n₀ + 1, 0, none⟩) (by show n₀ ≤ n₀ + 1; omega) _)
    · have hkn : k = n := by omega
      subst hkn
      gi_wp2_with (refine ⟨trivial, ?_⟩; gi_at_call 52; refine (callsIn_wide.2 (nodes_any _ k c Q h6 HQ.out _)).mono ?_; rintro e w' ⟨rfl, rfl⟩)
      have hsz := HS0.out
      rw [hsz]
      have hQ2 : Q < 2 ^ k := by have := HQ.out; omega
      have hTw : Tab wr := TB.out.below hB0 h2
      obtain ⟨W1, eW1⟩ : ∃ W1, W1 = wr.alloc (.cells #[.int .i64 (Q : Nat)] 3) := ⟨_, rfl⟩
      have hBW : Below n₀ w W1 := by rw [eW1]; exact hB0.alloc (by omega) _
      have hT1 : Tab W1 := TB.out.below hBW h2
      have sz1 : n₀ + 1 + 1 + 1 < W1.heap.size := by rw [eW1]; simp [hsz]
      have bQ : W1.cell? ⟨n₀ + 1 + 1 + 1, 0, none⟩ = some (.int .i64 (Q : Nat)) := by
        rw [eW1]; have h := Boxed.new wr 3 (.int .i64 (Q : Nat)); rw [hsz] at h; exact h.cell
      have b3 : Boxed3 n₀ (.slice (some ⟨blk, off, none⟩) k c) W1 := by rw [eW1]; exact ⟨Y0.out.alloc _, Y1.out.alloc _, Y2.out.alloc _⟩
      rw [← eW1]
      clear eW1 Y0 Y1 Y2 x0 x1 x2 g0 g1 hTw hsz HS0 hleW hB0 hd1 hd2
      refine wpIn_rangeFunc_ownH (α := Nd k Q) rfl (by omega) (gf := 76) (lb := #[.pointer (some ⟨n₀ + 1 + 1 + 1, 0, none⟩)]) rfl trivial (enters_of Tryd.func76 (by kernel_rfl) rfl)
        (nodes_stops _ (n₀ + 1 + 1 + 1) k Q n₀ (by omega) h6 hQ2 W1 sz1 bQ hT1 h2 (by omega)) belowK_t (belowK_b (by omega)) (Below.refl _ _) (fun _ => rfl)
        (fun pre W => ((∀ v ∈ valsN pre, ∀ u ∈ nodesL (ent L v), u ≠ v ∧ bt L u v = 1) ∧ Boxed3 n₀ (.slice (some ⟨blk, off, none⟩) k c) W) ∧ Below n₀ w W)
        (fun cd pre W => ((cd = .ret ∧ ¬ IsGraph L) ∧ Boxed3 n₀ (.slice (some ⟨blk, off, none⟩) k c) W) ∧ Below n₀ w W)
        (OwnFrom.and (OwnFrom.and (ownFrom_pure _ _) (Own.from (boxed3_own _ _) _)) (ownFrom_below hle (by omega)))
        (fun cd => OwnFrom.and (OwnFrom.and (ownFrom_pure _ _) (Own.from (boxed3_own _ _) _)) (ownFrom_below hle (by omega)))
        ⟨⟨fun v hv => by simp [valsN] at hv, b3⟩, hBW⟩
        (fun x a' W => ∃ Bx, n₀ + 1 + 1 < Bx ∧ Boxed W Bx 3 (.int .i64 (x.1 : Int)) ∧ a' = { tmps := #[.slice (some ⟨blk, off, none⟩) k c, undef, .pointer (some ⟨n₀, 0, none⟩), .pointer (some ⟨n₀ + 1, 0, none⟩), .pointer (some ⟨n₀ + 1 + 1, 0, none⟩), undef, u6, .pointer (some ⟨Bx, 0, none⟩), undef, .slice (some ⟨blk, off, none⟩) k c, .slice (some ⟨blk, off, none⟩) k c, .int .i64 k, .bool false, .bool false,
          .slice (some ⟨blk, off, none⟩) k c, .int .i64 k, .bool false, .bool false, .slice (some ⟨blk, off, none⟩) k c, .int .i64 k, .int .i64 k, .bool false, u22, u23, u24, u25, u26, u27, u28, .slice (some ⟨blk, off, none⟩) k c, .func (.func 76) #[] #[.pointer (some ⟨n₀ + 1 + 1 + 1, 0, none⟩)], .int .i64 (x.1 : Int),
          undef, undef, undef, undef, undef, undef, undef, undef, undef, undef, undef, undef, undef, undef, undef, undef, undef], defers := [] })
        (fun x a' _ X Y row hs hg hr => by obtain ⟨Bx, e1, e2, e3⟩ := hs; exact ⟨Bx, e1, boxed_own Bx 3 (fun (_ : Unit) => Value.int .i64 (x.1 : Int)) () X Y row e2 hg (fun r e => (hr r e).2), e3⟩)
        ?assign ?body ?done ?stop
      case assign =>
        rintro l pre x W K ⟨⟨hp, bb⟩, hB1⟩ hK
        gi_wp2
        exact hK _ _ ((KeepsOthers.alloc _ _).from _) ((Below.refl _ W).alloc (by have := bb.1.lt; omega) _) ⟨⟨hp, bb.alloc _⟩, hB1.alloc (by have := bb.1.lt; omega) _⟩ ⟨W.heap.size, bb.2.2.lt, Boxed.new W 3 _, rfl⟩
      case body =>
        rintro l pre x a' W hl ⟨r, hr⟩ ⟨⟨hp, bb⟩, hB1⟩ ⟨Bx, hBx, bX, rfl⟩ hlt
        obtain ⟨v, hvk, hvq⟩ := x
        dsimp only at bX ⊢
        obtain ⟨blk1, off1, hA1, hbl1, hc1⟩ := H.out v (by have := HN.out; omega)
        have e1 : blk = blk1 ∧ off = off1 := by injection hA1 with e; injection e with e1 e2; exact ⟨e1, e2⟩
        obtain ⟨rfl, rfl⟩ := e1
        have hin := hok.out v hvk
        have hX := ent_int hin
        have hXl := ent_lt hin
        obtain ⟨X, eX⟩ : ∃ X, X = ent L v := ⟨_, rfl⟩
        rw [← eX] at hX hXl
        rw [hX] at hc1
        rw [← HN.out] at hXl
        have hcv : W.cell? ⟨blk, off + v, none⟩ = some (.int .i64 X) := (hB1.cell (p := ⟨blk, off + v, none⟩) hbl0).trans hc1
        have hi1 : (0 : Int) ≤ (v : Int) ∧ (v : Int) < (k : Int) := by omega
        have EX := Lib.hid eX
        have HI := Lib.hid hin
        have c2 := bb.2.2.cell
        have cX := bX.cell
        clear hA1 hbl1 hc1 hin hX eX
        gi_wp2_with (refine ⟨trivial, ?_⟩; gi_at_call 59; refine (CallsIn.inRound l (callsIn_wide.2 (nodesIn_any X _))).mono ?_; rintro e w' ⟨rfl, rfl⟩)
        have hsW : n₀ ≤ W.heap.size := by have := bb.1.lt; omega
        have bN := Boxed.new W 3 (.int .i64 (X : Nat))
        have hr' : (W.alloc (.cells #[.int .i64 (X : Nat)] 3)).heap[l]? = some (.loop r) := (Below.heap_alloc W _ l (Array.getElem?_eq_some_iff.1 hr).1).trans hr
        have hT2 : Tab (W.alloc (.cells #[.int .i64 (X : Nat)] 3)) := TB.out.below (hB1.alloc hsW _) h2
        refine wpIn_rangeFunc_ownN (α := Nd k X) (l₀ := l) (r₀ := r) rfl hr' (by omega) (gf := 76) (lb := #[.pointer (some ⟨W.heap.size, 0, none⟩)]) rfl trivial (enters_of Tryd.func76 (by kernel_rfl) rfl)
          ((nodes_stops _ W.heap.size k X n₀ (by omega) h6 hXl _ (by simp) bN.cell hT2 h2 (by simp; omega)).inRound l) belowK_t (belowK_b (by simp; omega)) (Below.refl _ _) (fun _ => rfl)
          (fun pre' W' => (((∀ u ∈ valsN pre', u ≠ v ∧ bt L u v = 1) ∧ Boxed3 n₀ (.slice (some ⟨blk, off, none⟩) k c) W') ∧ Boxed W' Bx 3 (.int .i64 (v : Nat))) ∧ (Below n₀ W W' ∧ KeepsFrom W1.heap.size W W'))
          (fun cd pre' W' => ((cd = .ret ∧ ¬ IsGraph L) ∧ Boxed3 n₀ (.slice (some ⟨blk, off, none⟩) k c) W') ∧ (Below n₀ W W' ∧ KeepsFrom W1.heap.size W W'))
          (OwnFrom.and (OwnFrom.and (OwnFrom.and (ownFrom_pure _ _) (Own.from (boxed3_own _ _) _)) (Own.from (boxed_own _ _ _) _)) (OwnFrom.and (ownFrom_below hsW (by simp; omega)) (ownFrom_keepsFrom (by simp))))
          (fun cd => OwnFrom.and (OwnFrom.and (ownFrom_pure _ _) (Own.from (boxed3_own _ _) _)) (OwnFrom.and (ownFrom_below hsW (by simp; omega)) (ownFrom_keepsFrom (by simp))))
          ⟨⟨⟨fun u hu => by simp [valsN] at hu, bb.alloc _⟩, bX.alloc _⟩, (Below.refl _ W).alloc hsW _, (KeepsOthers.alloc _ _).from _⟩
          (fun y a'' _ => a'' = { tmps := #[.slice (some ⟨blk, off, none⟩) k c, undef, .pointer (some ⟨n₀, 0, none⟩), .pointer (some ⟨n₀ + 1, 0, none⟩), .pointer (some ⟨n₀ + 1 + 1, 0, none⟩), undef, u6, .pointer (some ⟨Bx, 0, none⟩), .int .i64 (y.1 : Int), .slice (some ⟨blk, off, none⟩) k c, .slice (some ⟨blk, off, none⟩) k c, .int .i64 k, .bool false, .bool false,
            .slice (some ⟨blk, off, none⟩) k c, .int .i64 k, .bool false, .bool false, .slice (some ⟨blk, off, none⟩) k c, .int .i64 k, .int .i64 k, .bool false, u22, u23, u24, u25, u26, u27, u28, .slice (some ⟨blk, off, none⟩) k c, .func (.func 76) #[] #[.pointer (some ⟨n₀ + 1 + 1 + 1, 0, none⟩)], .int .i64 (v : Int),
            .slice (some ⟨blk, off, none⟩) k c, .int .i64 (v : Int), .pointer (some ⟨blk, off + v, none⟩), .int .i64 (X : Nat), .func (.func 76) #[] #[.pointer (some ⟨W.heap.size, 0, none⟩)], .int .i64 (y.1 : Int), undef, undef, undef, undef, undef, undef, undef, undef, undef, undef, undef], defers := [] })
          (fun _ _ _ _ _ _ hs _ _ => hs)
          ?assign2 ?body2 ?done2 ?stop2
        case assign2 =>
          rintro l2 pre' y W' K hi hK
          gi_wp2
          exact hK _ _ (KeepsFrom.refl _ _) (Below.refl _ _) hi rfl
        case body2 =>
          rintro l2 pre' y a'' W' _ _ ⟨⟨⟨hq, b2⟩, bX2⟩, hBW2, hKF⟩ rfl _
          obtain ⟨u, huk, hux⟩ := y
          have cX2 := bX2.cell
          have d0 := b2.1.cell
          have d1 := b2.2.1.cell
          have d2 := b2.2.2.cell
          have e0 := b2.1.frozen
          have e1 := b2.2.1.frozen
          have hbt : u ∈ nodesL (ent L v) := by rw [← EX.out]; exact nodes_mem.2 ⟨by omega, hux⟩
          by_cases huv : u = v
          · have hee : ((u : Int) == (v : Int)) = true := by simp [huv]
            have hno : ¬ IsGraph L := fun hg => (pairs_of_isGraph hg (by have := HN.out; omega) hbt).1 huv
            clear huv hbt
            gi_wp2
            refine ⟨trivial, ?_⟩
            gi_wp2
            exact ⟨((KeepsOthers.setCell _ _ _).trans (KeepsOthers.setCell _ _ _)).from _, ⟨⟨rfl, hno⟩, b2.reset⟩, (hBW2.setCell (p := ⟨n₀, 0, none⟩) (Nat.le_refl _) _).setCell (p := ⟨n₀ + 1, 0, none⟩) (by show n₀ ≤ n₀ + 1; omega) _,
              hKF.trans (((KeepsOthers.setCell _ _ _).trans (KeepsOthers.setCell _ _ _)).from _)⟩
          · have hee : ((u : Int) == (v : Int)) = false := by simp; omega
            obtain ⟨blk1, off1, hA1, hbl1, hc1⟩ := H.out u (by have := HN.out; omega)
            have e1' : blk = blk1 ∧ off = off1 := by injection hA1 with e; injection e with e1 e2; exact ⟨e1, e2⟩
            obtain ⟨rfl, rfl⟩ := e1'
            have hin := hok.out u huk
            have hY := ent_int hin
            have hYl := ent_lt hin
            obtain ⟨Y, eY⟩ : ∃ Y, Y = ent L u := ⟨_, rfl⟩
            rw [← eY] at hY hYl
            rw [hY] at hc1
            have h64 := two_le (n := L.length) (by have := HN.out; omega)
            have hcu : W'.cell? ⟨blk, off + u, none⟩ = some (.int .i64 Y) := ((hB1.trans hBW2).cell (p := ⟨blk, off + u, none⟩) hbl0).trans hc1
            have hYs : Y < 1048576 := by omega
            have hvs : v < 40 := by omega
            have EY := Lib.hid eY
            have HU := Lib.hid hbt
            have HV := Lib.hid huv
            clear hA1 hbl1 hc1 hin hY hYl eY h64 hbt huv
            by_cases hbit : Y / 2 ^ v % 2 = 1
            · have hbb : (Y / 2 ^ v % 2 == 1) = true := by simp [hbit]
              have HBT := Lib.hid hbit
              clear hbit
              gi_wp2_with (refine ⟨trivial, ?_⟩; gi_at_call 60; refine (CallsIn.inRound l2 (CallsIn.inRound l (callsIn_wide.2 (edge_any blk off k c u v Y _ hYs huk hvs hcu)))).mono ?_; rw [hbb]; rintro e w' ⟨rfl, rfl⟩)
              exact ⟨KeepsFrom.refl _ _, Below.refl _ _, ⟨⟨fun z hz => by
                rw [valsN_snoc] at hz
                rcases List.mem_append.1 hz with h | h
                · exact hq z h
                · simp at h
                  subst h
                  exact ⟨HV.out, by unfold bt; rw [← EY.out]; exact HBT.out⟩, b2⟩, bX2⟩, hBW2, hKF⟩
            · have hbb : (Y / 2 ^ v % 2 == 1) = false := by simp [hbit]
              have hno : ¬ IsGraph L := fun hg => hbit (by have h0 := (pairs_of_isGraph hg (by have := HN.out; omega) HU.out).2; unfold bt at h0; rw [← EY.out] at h0; exact h0)
              clear hbit
              gi_wp2_with (refine ⟨trivial, ?_⟩; gi_at_call 60; refine (CallsIn.inRound l2 (CallsIn.inRound l (callsIn_wide.2 (edge_any blk off k c u v Y _ hYs huk hvs hcu)))).mono ?_; rw [hbb]; rintro e w' ⟨rfl, rfl⟩)
              exact ⟨((KeepsOthers.setCell _ _ _).trans (KeepsOthers.setCell _ _ _)).from _, ⟨⟨rfl, hno⟩, b2.reset⟩, (hBW2.setCell (p := ⟨n₀, 0, none⟩) (Nat.le_refl _) _).setCell (p := ⟨n₀ + 1, 0, none⟩) (by show n₀ ≤ n₀ + 1; omega) _,
                hKF.trans (((KeepsOthers.setCell _ _ _).trans (KeepsOthers.setCell _ _ _)).from _)⟩
        case done2 =>
          rintro ys W' hS ⟨⟨⟨hq, b2⟩, bX2⟩, hBW2, hKF⟩
          gi_wp2
          exact ⟨hKF, hBW2, ⟨fun z hz => by
            rw [valsN_snoc] at hz
            rcases List.mem_append.1 hz with h | h
            · exact hp z h
            · simp at h
              subst h
              intro u hu
              rw [← EX.out, ← hS] at hu
              exact hq u hu, b2⟩, hB1.trans hBW2⟩
        case stop2 =>
          rintro cd pre' W' hpre ⟨⟨⟨rfl, hno⟩, b2⟩, hBW2, hKF⟩
          gi_wp2
          exact ⟨hKF, ⟨⟨rfl, hno⟩, b2⟩, hB1.trans hBW2⟩
      case done =>
        rintro D xs W hD hS ⟨⟨hp, bb⟩, hB1⟩ hK
        have c0 := bb.1.cell
        have c1 := bb.2.1.cell
        have c2 := bb.2.2.cell
        have f0 := bb.1.frozen
        have f1 := bb.2.1.frozen
        have HSS := Lib.hid hS
        clear hS
        gi_wp2
        have hK' := ((KeepsOthers.setCell W ⟨n₀, 0, none⟩ (.slice (some ⟨blk, off, none⟩) k c)).trans (KeepsOthers.setCell _ ⟨n₀ + 1, 0, none⟩ (.bool true))).same D _ hK rfl
        refine ⟨by simp, .inl ⟨_, _, rfl, run_takeDeferred hK', ?_⟩⟩
        have z0 := cell_kept ((bb.1.set (.slice (some ⟨blk, off, none⟩) k c)).other (show n₀ ≠ n₀ + 1 by omega) (.bool true)).cell (grownBy_putObj' _ D (.deferred none)) (fun r e => by cases e; exact ⟨_, hK', rfl⟩)
        have z1 := cell_kept ((bb.2.1.other (show n₀ + 1 ≠ n₀ by omega) (.slice (some ⟨blk, off, none⟩) k c)).set (.bool true)).cell (grownBy_putObj' _ D (.deferred none)) (fun r e => by cases e; exact ⟨_, hK', rfl⟩)
        refine ⟨.tuple #[.slice (some ⟨blk, off, none⟩) k c, .bool true], by simp [results, Tryd.f29, go_sem, z0, z1], ?_⟩
        refine asG_yes HB.out ?_ ?_
        · refine isGraph_of_pairs (by have := HN.out; omega) (by have := HN.out; omega) (fun v hv => hok.out v (by have := HN.out; omega)) (fun v hv => hp v ?_)
          rw [HSS.out]
          refine nodes_mem.2 ⟨by have := HN.out; omega, ?_⟩
          exact full_bit (by have := HQ.out; exact this) (by have := HN.out; omega)
        · rw [← EN.out]
          exact ((hB1.setCell (p := ⟨n₀, 0, none⟩) (Nat.le_refl _) _).setCell (p := ⟨n₀ + 1, 0, none⟩) (by show n₀ ≤ n₀ + 1; omega) _).trans (belowK_b (w := w) hle _ D _ _ (by have := EN.out; omega) hK' rfl rfl)
      case stop =>
        rintro D cd pre W hD hpre ⟨⟨⟨rfl, hno⟩, bb⟩, hB1⟩ hK
        gi_wp2
        refine ⟨by simp, .inl ⟨_, _, rfl, run_takeDeferred hK, ?_⟩⟩
        have z0 := cell_kept bb.1.cell (grownBy_putObj' _ D (.deferred none)) (fun r e => by cases e; exact ⟨_, hK, rfl⟩)
        have z1 := cell_kept bb.2.1.cell (grownBy_putObj' _ D (.deferred none)) (fun r e => by cases e; exact ⟨_, hK, rfl⟩)
        refine ⟨.tuple #[.slice none 0 0, .bool false], by simp [results, Tryd.f29, go_sem, z0, z1], ?_⟩
        exact asG_no HB.out hno (by rw [← EN.out]; exact hB1.trans (belowK_b (w := w) hle _ D _ _ (by have := EN.out; omega) hK rfl rfl))
end Go.Proofs.YtamabhdbcmjbjaaDoor

/- asGraph at each list; the program's GraphIn. -/

namespace Go.Proofs.YtamabhdbcmjbjaaDoor
open Go.RowKit Go.Shelf
attribute [local go_sem] Oper.semAt_some
set_option linter.unusedVariables false

set_option maxRecDepth 100000 in
set_option maxHeartbeats 2000000 in
theorem asG_size (A : Option Addr) (n c : Nat) (w : World) (h : n = 0 ∨ 6 < n) :
    CallsIn Fence.wide 9 Tryd.prog 29 #[.slice A n c] w fun e w' => e = .returned (.tuple #[.slice none 0 0, .bool false]) ∧ Below w.heap.size w w' := by
  have X0 := ((Boxed.new w 41 (.slice none 0 0)).alloc (.cells #[.bool false] 4)).alloc (.cells #[.slice A n c] 41)
  have X1 := (Boxed.new (w.alloc (.cells #[.slice none 0 0] 41)) 4 (.bool false)).alloc (.cells #[.slice A n c] 41)
  rw [World.size_alloc] at X1
  have Y0 := Lib.hid X0
  have Y1 := Lib.hid X1
  have B0 := Lib.hid (((((Below.refl w.heap.size w).alloc (Nat.le_refl _) (.cells #[.slice none 0 0] 41)).alloc (by simp) (.cells #[.bool false] 4)).alloc (by simp; omega) (.cells #[.slice A n c] 41)))
  clear X0 X1
  have hd : (decide ((n : Int) < 1) = true ∧ n = 0) ∨ (decide ((n : Int) < 1) = false ∧ decide ((6 : Int) < (n : Int)) = true) := by
    rcases h with h | h
    · exact .inl ⟨by simp; omega, h⟩
    · exact .inr ⟨by simp; omega, by simp; omega⟩
  clear h
  rcases hd with ⟨hd, rfl⟩ | ⟨hd, he⟩
  all_goals
    refine callsIn_of_wp_marks Tryd.func29 rfl trivial ?_ rfl
    simp only [Tryd.ntmps29, List.size_toArray, List.length_cons, List.length_nil, Nat.reduceAdd, Nat.reduceSub, Array.replicate_succ, Array.replicate_zero, List.push_toArray, List.append_toArray, List.nil_append, List.cons_append]
    gi_wp2
    have z0 := Y0.out.cell
    have z1 := Y1.out.cell
    exact ⟨.tuple #[.slice none 0 0, .bool false], by simp [results, Tryd.f29, go_sem, z0, z1], rfl, B0.out⟩

/-- **asGraph, at each list that the call owns.** -/
theorem asG_any (B : Nat) (v : Value) (L : List Int) (b : Bool) (hb : b = true ↔ IsGraph L) (w : World) (h : Row w B v L) (hT : Tab w) :
    Calls Tryd.prog 29 #[v] w (AsG w v b) := by
  obtain ⟨A, c, rfl, hs⟩ := h.seen
  by_cases hl : 1 ≤ L.length ∧ L.length ≤ 6
  · exact callsIn_wide.1 (asG_seen A c L b hb w hs hT hl.1 hl.2)
  · refine (callsIn_wide.1 (asG_size A L.length c w (by omega))).mono fun e w' ⟨he, hw⟩ => ?_
    rw [he]
    exact asG_no hb (fun hg => hl ⟨hg.1, hg.2.1⟩) hw

/-- How asGraph ends at a graph; at another list. -/
def AsYes (w : World) (v : Value) (e : Ending) (w' : World) : Prop := e = .returned (.tuple #[v, .bool true]) ∧ Below w.heap.size w w'
def AsNo (w : World) (e : Ending) (w' : World) : Prop := e = .returned (.tuple #[.slice none 0 0, .bool false]) ∧ Below w.heap.size w w'
theorem asG_graph (B : Nat) (v : Value) (L : List Int) (hg : IsGraph L) (w : World) (h : Row w B v L) (hT : Tab w) :
    Calls Tryd.prog 29 #[v] w (AsYes w v) :=
  (asG_any B v L true ⟨fun _ => hg, fun _ => rfl⟩ w h hT).mono fun e w' ⟨he, hw⟩ => ⟨he, hw⟩
theorem asG_none (B : Nat) (v : Value) (L : List Int) (hno : ¬ IsGraph L) (w : World) (h : Row w B v L) (hT : Tab w) :
    Calls Tryd.prog 29 #[v] w (AsNo w) :=
  (asG_any B v L false ⟨fun h => (by cases h), fun hg => absurd hg hno⟩ w h hT).mono fun e w' ⟨he, hw⟩ => ⟨he, hw⟩

/-- How a call that tells a bool ends. -/
def Said1 (w : World) (b : Bool) (e : Ending) (w' : World) : Prop := e = .returned (.bool b) ∧ Below w.heap.size w w'
end Go.Proofs.YtamabhdbcmjbjaaDoor

/- What the laws of a list and a bool share. -/

namespace Go.Proofs.YtamabhdbcmjbjaaDoor
open Go.RowKit
set_option linter.unusedVariables false

/-- A row stays while a row of other blocks is written. -/
theorem Row.keep {w1 w2 : World} {B : Nat} {v v' : Value} {xs : List Int} (h : Row w1 B v xs) (hne : ∀ a, v.ownBlock = some a → v'.ownBlock ≠ some a) (hg : w1.grownBy w2 v'.ownBlock) : Row w2 B v xs := by
  refine World.ownsRow.kept h hg ?_
  cases hv0 : v.ownBlock with
  | none => exact .inl rfl
  | some a => exact .inr fun e => hne a hv0 e.symm
theorem apart_of {v v' : Value} {a b c d : Nat} (h : ∀ k, v.ownBlock = some k → a ≤ k ∧ k < b) (h' : ∀ k, v'.ownBlock = some k → c ≤ k ∧ k < d) (hd : b ≤ c ∨ d ≤ a) : ∀ k, v.ownBlock = some k → v'.ownBlock ≠ some k := fun k hk e => by
  have h1 := h k hk
  have h2 := h' k e
  omega
/-- A row stays while what is no cells turns. -/
theorem row_kept {W W' : World} {B : Nat} {v : Value} {xs : List Int} {row : Option Nat} (h : Row W B v xs) (hg : W.grownBy W' row) (hr : ∀ r, row = some r → ∃ o : Obj, W.heap[r]? = some o ∧ o.isCells = false) : Row W' B v xs := by
  refine World.ownsRow.kept h hg ?_
  rcases h.2 with ⟨rfl, _⟩ | ⟨g, cap, cur, rfl, _, hgb, _⟩
  · exact .inl rfl
  · refine .inr fun e' => ?_
    obtain ⟨o, ho, hc⟩ := hr g (by simpa [Value.ownBlock] using e'.symm)
    rw [hgb] at ho
    cases ho
    cases hc
/-- A list as its sets, where each place is read in range. -/
def setsOf (L : List Int) : List Nat := L.map Int.toNat
end Go.Proofs.YtamabhdbcmjbjaaDoor

/- append of one number to a list of the call's own. -/



namespace Go.Proofs.YtamabhdbcmjbjaaDoor
open Go.RowKit
set_option linter.unusedVariables false

theorem append_one {ops : Array Oper} {rest : List Oper} {o : Oper} {a : Act} {Q : Exit → Act → World → Prop} (hgd : o.guard = none) (s x : Operand)
    (ho : o.op = .call { callee := .builtin .append, args := #[s, x], argTypes := #[23, 23] }) (w : World) (B : Nat) (v : Value) (xs : List Int) (y : Int)
    (hs : a.eval s = v) (hx : a.eval x = .slice (some ⟨w.heap.size, 0, none⟩) 1 1) (hr : Row w B v xs) (hB : B ≤ w.heap.size) (hlen : xs.length ≤ 100000)
    (h : ∀ v' w', Hid (Row w' B v' (xs ++ [y])) → Hid (Below B w w') → wpList Tryd.prog ops Q rest (a.put o.dst v') w') :
    wpList Tryd.prog ops Q (o :: rest) a (w.alloc (.cells #[.int .i64 y] 3)) := by
  obtain ⟨i0, hi, hz0, hz1, hz2⟩ := info_parts infoInt
  refine wpList_append_own (w.alloc (.cells #[.int .i64 y] 3)) hgd s x 23 ho B 3 i0 (.int .i64 0) 1 8 Tryd.underlying23 hi hz0 hz1 hz2 rfl (by decide) v xs.length (xs.map (Value.int .i64)) hs (World.ownsRow.alloc hr _)
    ⟨w.heap.size, 0, none⟩ 1 1 [.int .i64 y] hx rfl (cell_one_new w _ _) (by simp [Value.oneCell']) (by unfold maxLen; omega) (by omega) (by simp; omega) ?_
  intro v' w' hown hg _
  refine h v' w' ?_ ?_
  · unfold Hid Row
    rw [List.length_append, List.map_append]
    exact hown
  · exact ((Below.refl B w).alloc hB _).grown hg (by simp; omega) (fun k hk => (hr.lt k hk).1)
/-- The same as a step of a region that draws its order. -/
theorem step_one {ops : Array Oper} {o : Oper} {a : Act} {K : Act → World → Prop} {Q : Exit → Act → World → Prop} {E : Prop} (hgd : o.guard = none) (s x : Operand)
    (ho : o.op = .call { callee := .builtin .append, args := #[s, x], argTypes := #[23, 23] }) (w : World) (B : Nat) (v : Value) (xs : List Int) (y : Int)
    (hs : a.eval s = v) (hx : a.eval x = .slice (some ⟨w.heap.size, 0, none⟩) 1 1) (hr : Row w B v xs) (hB : B ≤ w.heap.size) (hlen : xs.length ≤ 100000)
    (h : ∀ v' w', Hid (Row w' B v' (xs ++ [y])) → Hid (Below B w w') → K (a.put o.dst v') w') :
    if Region.wanted o (yielded ops a.tmps) = true then Oper.wp Tryd.prog o a (w.alloc (.cells #[.int .i64 y] 3)) K Q else E := by
  rw [if_pos (by simp [Region.wanted, hgd])]
  obtain ⟨i0, hi, hz0, hz1, hz2⟩ := info_parts infoInt
  refine wp_append_own (w.alloc (.cells #[.int .i64 y] 3)) s x 23 ho B 3 i0 (.int .i64 0) 1 8 Tryd.underlying23 hi hz0 hz1 hz2 rfl (by decide) v xs.length (xs.map (Value.int .i64)) hs (World.ownsRow.alloc hr _)
    ⟨w.heap.size, 0, none⟩ 1 1 [.int .i64 y] hx rfl (cell_one_new w _ _) (by simp [Value.oneCell']) (by unfold maxLen; omega) (by omega) (by simp; omega) ?_
  intro v' w' hown hg _
  refine h v' w' ?_ ?_
  · unfold Hid Row
    rw [List.length_append, List.map_append]
    exact hown
  · exact ((Below.refl B w).alloc hB _).grown hg (by simp; omega) (fun k hk => (hr.lt k hk).1)
end Go.Proofs.YtamabhdbcmjbjaaDoor

/- append of one number: where the list lies then. -/


namespace Go.Proofs.YtamabhdbcmjbjaaDoor
open Go.RowKit
set_option linter.unusedVariables false

theorem append_at {ops : Array Oper} {rest : List Oper} {o : Oper} {a : Act} {Q : Exit → Act → World → Prop} (hgd : o.guard = none) (s x : Operand)
    (ho : o.op = .call { callee := .builtin .append, args := #[s, x], argTypes := #[23, 23] }) (w : World) (B : Nat) (v : Value) (xs : List Int) (y : Int)
    (hs : a.eval s = v) (hx : a.eval x = .slice (some ⟨w.heap.size, 0, none⟩) 1 1) (hr : Row w B v xs) (hB : B ≤ w.heap.size) (hlen : xs.length ≤ 100000)
    (h : ∀ v' w', Row w' B v' (xs ++ [y]) → Below B w w' → (w.alloc (.cells #[.int .i64 y] 3)).grownBy w' v.ownBlock → (v'.ownBlock = v.ownBlock ∨ ∃ g, v'.ownBlock = some g ∧ w.heap.size ≤ g) → wpList Tryd.prog ops Q rest (a.put o.dst v') w') :
    wpList Tryd.prog ops Q (o :: rest) a (w.alloc (.cells #[.int .i64 y] 3)) := by
  obtain ⟨i0, hi, hz0, hz1, hz2⟩ := info_parts infoInt
  refine wpList_append_own_at (w.alloc (.cells #[.int .i64 y] 3)) hgd s x 23 ho B 3 i0 (.int .i64 0) 1 8 Tryd.underlying23 hi hz0 hz1 hz2 rfl (by decide) v xs.length (xs.map (Value.int .i64)) hs (World.ownsRow.alloc hr _)
    ⟨w.heap.size, 0, none⟩ 1 1 [.int .i64 y] hx rfl (cell_one_new w _ _) (by simp [Value.oneCell']) (by unfold maxLen; omega) (by omega) (by simp; omega) ?_
  intro v' w' hown hg _ hat
  refine h v' w' ?_ ?_ hg (hat.imp_right fun e => ⟨_, e, by simp⟩)
  · unfold Row
    rw [List.length_append, List.map_append]
    exact hown
  · exact ((Below.refl B w).alloc hB _).grown hg (by simp; omega) (fun k hk => (hr.lt k hk).1)

/-- Some blocks stay as they are. -/
def Still (b0 b1 : Nat) (W W' : World) : Prop := ∀ k, b0 ≤ k → k < b1 → W'.heap[k]? = W.heap[k]?
theorem Still.refl (b0 b1 : Nat) (W : World) : Still b0 b1 W W := fun _ _ _ => rfl
theorem Still.cell {b0 b1 : Nat} {W W' : World} (h : Still b0 b1 W W') {k i : Nat} (h0 : b0 ≤ k) (h1 : k < b1) : W'.cell? ⟨k, i, none⟩ = W.cell? ⟨k, i, none⟩ := by
  unfold World.cell?
  rw [h k h0 h1]
theorem Still.grown {b0 b1 : Nat} {W w w' : World} {o : Obj} {row : Option Nat} (h : Still b0 b1 W w) (hs : b1 ≤ w.heap.size) (hg : (w.alloc o).grownBy w' row) (hr : ∀ g, row = some g → g < b0 ∨ b1 ≤ g) : Still b0 b1 W w' := fun k hk hk1 => by
  have h1 : (w.alloc o).heap[k]? = w.heap[k]? := Below.heap_alloc _ _ _ (by omega)
  have h2 := h k hk hk1
  have h3 : w.heap[k]? = some (w.heap[k]'(by omega)) := Array.getElem?_eq_getElem (by omega)
  exact ((hg.block k (by simp; omega) (fun e => by have := hr k e.symm; omega)).trans h1).trans h2
end Go.Proofs.YtamabhdbcmjbjaaDoor

/- What the cards' proofs share: the listed table as the walks read it; a list that came in; how a row's call ends. -/










namespace Go.Proofs.YtamabhdbcmjbjaaDoor
open Go.ChangeShapes Go.WideShapes Go.ChangeAt Go.RowKit
set_option linter.unusedVariables false

theorem own : ownKnob Tryd.prog.godebug = none := by kernel_rfl
theorem laidOut : laidOutB Tryd.prog = true := by kernel_rfl
theorem gTab : Tryd.prog.globalNamed "math/bits.deBruijn64tab" = some 1 := by kernel_rfl
theorem gTabType : (Tryd.prog.globals[1]?).map (·.type) = some 104 := by kernel_rfl
theorem cellsTab : Tryd.prog.cellsOf 104 = 64 := by kernel_rfl
theorem cellsByte : Tryd.prog.cellsOf 5 = 1 := by kernel_rfl
theorem cellsInt : Tryd.prog.cellsOf 3 = 1 := by kernel_rfl

/-- The 64 numbers of the table. -/
def tabN : List Int := [0, 1, 56, 2, 57, 49, 28, 3, 61, 58, 42, 50, 38, 29, 17, 4, 62, 47, 59, 36, 45, 43, 51, 22, 53, 39, 33, 30, 24, 18, 12, 5, 63, 55, 48, 27, 60, 41, 37, 16, 46, 35, 44, 21, 52, 32, 23, 11, 54, 26, 40, 15, 34, 20, 31, 10, 25, 14, 19, 9, 13, 8, 7, 6]
theorem tab_at : ∀ k : Fin 6, tabN.getD (2 ^ k.val - 1) 0 = (k.val : Int) := by decide
/-- Out of what a row lists: the table's cells. -/
theorem tab_of_laid {W : World} (h : laidMetH Tryd.prog [("math/bits.deBruijn32tab", Rows.laid_math_bits_deBruijn32tab), ("math/bits.deBruijn64tab", Rows.laid_math_bits_deBruijn64tab)] W) : Tab W := by
  have h1 : laidMet Tryd.prog [("math/bits.deBruijn32tab", Rows.laid_math_bits_deBruijn32tab), ("math/bits.deBruijn64tab", Rows.laid_math_bits_deBruijn64tab)] W := h
  have h2 : laidMet Tryd.prog [("math/bits.deBruijn64tab", Lib.tabData .u8 tabN)] W := laidMet.tail h1
  have h3 := Lib.tabIs_of_head (rest := []) gTab gTabType Tryd.underlying104 Tryd.underlying5 cellsByte cellsTab h2
  intro k hk
  have h4 := h3.cell gTab (2 ^ k - 1) (by have := pow_le k 5 (by omega); show 2 ^ k - 1 < 64; omega)
  rw [h4, tab_at ⟨k, hk⟩]

set_option maxRecDepth 100000 in
/-- A list that came in: its numbers; and it reads behind the call as it did. -/
theorem came {H : Type} {enc : TypeId × Value → H} {W : World} {base : Nat} {v : Value} {d : DataW H} {ps : List MemPlace}
    (hv : Value.okWide Tryd.prog W .any base 23 v) (h : DataW.Trod enc Tryd.prog W 0 (fun _ => true) true 23 v d ps) (hlt : ∀ x ∈ ps, x.block < W.heap.size) :
    ∃ (A : Option Addr) (c : Nat) (L : List Int), v = .slice A L.length c ∧ Seen W A L ∧ L.length ≤ maxLen ∧
      ∀ W', Below W.heap.size W W' → DataW.Trod enc Tryd.prog W' 0 (fun b => decide (b < W.heap.size)) true 23 v d ps := by
  have hback : ∀ W', Below W.heap.size W W' → DataW.Trod enc Tryd.prog W' 0 (fun b => decide (b < W.heap.size)) true 23 v d ps := fun W' hb =>
    Below.trod laidOut (by kernel_rfl) (of_decide_eq_true (by kernel_rfl)) h hb hlt
  obtain ⟨A, len, cap, rfl⟩ := okWide_slice Tryd.underlying23 hv
  obtain ⟨fuel, hf⟩ := h
  rcases open_ints Tryd.underlying23 Tryd.underlying3 cellsInt hf with ⟨hcs, _⟩ | ⟨a, len', cap', zs, hcs, _, hl, hm, hz, hx, hcell, _⟩
  · simp [Value.cells] at hcs
    obtain ⟨rfl, rfl, rfl⟩ := hcs
    exact ⟨none, 0, [], rfl, fun k hk => absurd hk (by simp), by simp [maxLen], hback⟩
  · simp [Value.cells] at hcs
    obtain ⟨rfl, rfl, rfl⟩ := hcs
    simp only [if_true] at hz
    have hlen : (zs.take len).length = len := by rw [List.length_take]; omega
    refine ⟨some a, cap, zs.take len, by rw [hlen], fun k hk => ?_, by rw [hlen]; omega, hback⟩
    rw [hlen] at hk
    obtain ⟨b, off, spot⟩ := a
    have hspot : spot = none := by simpa [Addr.add] using World.cell?_spot (hcell 0 (by omega))
    subst hspot
    simp only [Prod.mk.injEq] at hx
    obtain ⟨rfl, rfl⟩ := hx
    refine ⟨b, off, rfl, hlt (.cell b off) (MemPlace.mem_row.2 ⟨0, by omega, by simp⟩), ?_⟩
    rw [← add_plain, hcell k (by omega)]
    simp [List.getD, hk]

/-- A call that returns a bool, and left all elder blocks as they were, ends as the row asks. -/
theorem ends {H : Type} {enc : TypeId × Value → H} {s : ChangeSpec} {f : Func} {W W' : World} {args : Array Value} {ds : List (DataW H)} {before : List MemPlace} {b : Bool}
    (hs : s.vars = []) (hr : f.resultTypes = #[4]) (hspec : s.fn H (ds ++ []) = { results := [.lit (.bool b)], args := ds })
    (hW : DataW.Whole enc Tryd.prog f.params.toList s.vars false W args.toList ds [] before)
    (hargs : DataW.TrodAll enc Tryd.prog W' 0 (fun x => decide (x < W.heap.size)) true f.params.toList args.toList ds before)
    (hb : Below W.heap.size W W') : s.post enc Tryd.prog f false true false false W args (.bool b) W' := by
  refine ⟨ds, [], before, [], before, [], hW, ?_, by rw [hspec]; exact hargs, by rw [hs, hspec]; exact rfl, hb.frame _, fun h => by cases h⟩
  rw [hr, hspec]
  exact trodAll_cons_mk (shut_bool Tryd.underlying4 _) trodAll_mk0

/-- What the initialiser of a table of bytes lays, put into its block. -/
def putTab (zs : List Int) : Obj → Obj
  | .cells _ t frozen => .cells (zs.map fun z => Value.int .u8 z).toArray t frozen
  | o => o
def tab32 : List Int := [0, 1, 28, 2, 29, 14, 24, 3, 30, 22, 20, 15, 25, 17, 4, 8, 31, 27, 13, 23, 21, 19, 16, 7, 26, 12, 18, 6, 11, 5, 10, 9]
/-- A world for the witness: the settled one, the two tables as their initialisers lay them. -/
noncomputable def laidWorld (os : Os) : World :=
  { World.holding Tryd.prog os ⟨#[], #[], []⟩ with heap := ((World.holding Tryd.prog os ⟨#[], #[], []⟩).heap.modify 0 (putTab tab32)).modify 1 (putTab tabN) }
end Go.Proofs.YtamabhdbcmjbjaaDoor

/- How calls that tell a number end. -/

namespace Go.Proofs.YtamabhdbcmjbjaaDoor
open Go.RowKit
set_option linter.unusedVariables false

/-- How a call that tells a number ends. -/
def NumA (w : World) (x : Nat) (e : Ending) (w' : World) : Prop := e = .returned (.int .i64 (x : Nat)) ∧ Below w.heap.size w w'
theorem wrap_next (x : Int) : wrap64 (wrap64 x + 1) = wrap64 (x + 1) := by unfold wrap64; omega
theorem wrap_small (k : Nat) (h : k ≤ 1000000) : wrap64 (k : Int) = (k : Int) := by unfold wrap64; omega

/-- How a call that tells a number and a bool ends. -/
def NumOkA (w : World) (x : Nat) (ok : Bool) (e : Ending) (w' : World) : Prop := e = .returned (.tuple #[.int .i64 (x : Nat), .bool ok]) ∧ Below w.heap.size w w'
end Go.Proofs.YtamabhdbcmjbjaaDoor

/- How a call that tells a number ends. -/

namespace Go.Proofs.YtamabhdbcmjbjaaDoor
open Go.RowKit
set_option linter.unusedVariables false

/-- How a call that tells a number ends. -/
def NumB (w : World) (x : Nat) (e : Ending) (w' : World) : Prop := e = .returned (.int .i64 (x : Nat)) ∧ Below w.heap.size w w'

end Go.Proofs.YtamabhdbcmjbjaaDoor

/- The iterator over the pairs of nodes: it hands out each pair once, in the order of codes, and stops where a round says so. -/













namespace Go.Proofs.YtamabhdbcmjbjaaDoor
open Go.RowKit Go.Shelf
attribute [local go_sem] Oper.semAt_some
set_option linter.unusedVariables false

/-- A pair of m nodes, the lesser one first. -/
abbrev Pr (m : Nat) := { p : Nat × Nat // p.1 < p.2 ∧ p.2 < m }
abbrev encP (m : Nat) (x : Pr m) : Array Value := #[.int .i64 (x.1.1 : Int), .int .i64 (x.1.2 : Int)]
def vals {m : Nat} (l : List (Pr m)) : List (Nat × Nat) := l.map (·.1)
theorem vals_snoc {m : Nat} (l : List (Pr m)) (x : Pr m) : vals (l ++ [x]) = vals l ++ [x.1] := by simp [vals]
theorem vals_length {m : Nat} (l : List (Pr m)) : (vals l).length = l.length := by simp [vals]

set_option maxHeartbeats 1000000 in
theorem pairs_stops (F : Fence) (n : Nat) (hF : F.fn 80) (hro : F.round = none) (hn : 1 ≤ n) (Bn m : Nat) (hm : m ≤ 6) (w : World) (hB : Bn < w.heap.size) (hc : w.cell? ⟨Bn, 0, none⟩ = some (.int .i64 m)) :
    SeqStopsK F n Tryd.prog 80 #[.pointer (some ⟨Bn, 0, none⟩)] (encP m) (fun _ _ => True) (fun xs => vals xs = rows m) (fun pre => vals pre <+: rows m) 15 w := fun l J Jx W hb hJ hJx hY h0 => by
  have hcW : W.cell? ⟨Bn, 0, none⟩ = some (.int .i64 m) := (hb.cell (p := ⟨Bn, 0, none⟩) hB).trans hc
  have HY := Lib.hid hY
  clear hY hJ hJx hb
  refine callsIn_of_wp Tryd.func80 rfl hF ?_ hro
  simp only [Tryd.ntmps80, List.size_toArray, List.length_cons, List.length_nil, Nat.reduceAdd, Nat.reduceSub, Array.replicate_succ, Array.replicate_zero, List.push_toArray, List.append_toArray, List.nil_append, List.cons_append]
  gi_wp2
  gi_loopw [6] (fun b wr => ∃ (y : Nat) (pre : List (Pr m)), y ≤ m ∧ b = .int .i64 y ∧ Hid (vals pre = rows y) ∧ J pre wr) (fun b _ => m - (intOf b).toNat)
  case atStart => exact ⟨0, [], Nat.zero_le _, rfl, Lib.hid rfl, h0⟩
  case round =>
    obtain ⟨y, pre, hym, rfl, hp, hJ⟩ := hrel
    obtain ⟨wo, rfl⟩ : ∃ wo : World, wo = wr := ⟨_, rfl⟩
    by_cases hlt : y < m
    · gi_wp2
      gi_loopw [10] (fun a wr' => ∃ (x : Nat) (pre : List (Pr m)), x ≤ y ∧ a = .int .i64 x ∧ Hid (vals pre = upto y x) ∧ J pre wr') (fun a _ => y - (intOf a).toNat)
      case atStart => exact ⟨0, pre, Nat.zero_le _, rfl, Lib.hid (by rw [upto_zero]; exact hp.out), hJ⟩
      case round =>
        obtain ⟨x, pre', hxy, rfl, hp', hJ'⟩ := hrel
        by_cases hlx : x < y
        · have hlen : pre'.length < 15 := by
            have h1 := upto_length y (x + 1) (by omega) (by omega)
            rw [upto_succ, List.length_append, ← hp'.out, vals_length] at h1
            simp at h1
            omega
          obtain ⟨fn, tmps, assign, body, hy, hR⟩ := HY.out pre' ⟨(x, y), hlx, hlt⟩ wr hJ' hlen
          dsimp only [encP] at hy
          clear hlen
          gi_wp2
          refine hR.mono ?_
          rintro e W3 (⟨rfl, hJ3, _⟩ | ⟨rfl, hJx3⟩)
          · gi_wp2
            go_roundw
            case rel => exact ⟨x + 1, _, by omega, by go_num, Lib.hid (by rw [vals_snoc, hp'.out, upto_succ]), hJ3⟩
            case measure => simp [intOf]; omega
          · gi_wp2
            refine bodyPost_ret (results_none rfl _ _ _) rfl ?_
            exact ⟨⟨_, rfl⟩, .inr ⟨_, (by rw [vals_snoc, hp'.out, ← upto_succ]; exact upto_pre y (x + 1) m (by omega) (by omega)), hJx3⟩⟩
        · have hxe : x = y := by omega
          subst hxe
          gi_wp2
          go_roundw
          case rel => exact ⟨x + 1, pre', by omega, by go_num, Lib.hid (by rw [hp'.out, upto_end]), hJ'⟩
          case measure => simp [intOf]; omega
    · have hye : y = m := by omega
      subst hye
      gi_wp2
      go_end0
      exact ⟨⟨_, rfl⟩, .inl ⟨pre, hp.out, hJ⟩⟩

end Go.Proofs.YtamabhdbcmjbjaaDoor

/- pairs hands out its iterator. -/

namespace Go.Proofs.YtamabhdbcmjbjaaDoor
open Go.RowKit Go.Shelf
set_option linter.unusedVariables false
/-- pairs hands out its iterator; the number of nodes lies in a box. -/
theorem pairs_any (m : Nat) (w : World) : Calls Tryd.prog 67 #[.int .i64 m] w fun e w' =>
    e = .returned (.func (.func 80) #[] #[.pointer (some ⟨w.heap.size, 0, none⟩)]) ∧ w.alloc (.cells #[.int .i64 m] 3) = w' := by
  have hmf : ∀ (fn : Fn) (first cap : Array Value) (w : World), (Instr.makeFunc fn first cap).run Tryd.prog w = .ok (.func fn first cap) w := fun _ _ _ _ => rfl
  go_enter Tryd.func67, Tryd.ntmps67
  go_wp2
  go_ret
  exact ⟨rfl, rfl⟩
theorem ne_some {a b : Nat} (h : a ≠ b) : some a ≠ some b := fun e => h (by injection e)
end Go.Proofs.YtamabhdbcmjbjaaDoor

/- The code of a graph, as plain mathematics. No condition. -/

namespace Go.Proofs.YtamabhdbcmjbjaaDoor
open Go Go.RowKit

def cstep (L : List Int) (st : Nat × Nat) (p : Nat × Nat) : Nat × Nat := (st.1 ||| bt L p.1 p.2 * 2 ^ st.2, st.2 + 1)
def crun (L : List Int) (ps : List (Nat × Nat)) : Nat × Nat := ps.foldl (cstep L) (0, 0)
theorem crun_snoc (L : List Int) (ps : List (Nat × Nat)) (p : Nat × Nat) : crun L (ps ++ [p]) = cstep L (crun L ps) p := by simp [crun]
theorem crun_at (L : List Int) (ps : List (Nat × Nat)) : (crun L ps).2 = ps.length := by
  induction ps using snoc_ind with
  | h0 => rfl
  | h1 l x ih => rw [crun_snoc, List.length_append]; show (crun L l).2 + 1 = _; rw [ih]; rfl
theorem bt_le (L : List Int) (v w : Nat) : bt L v w ≤ 1 := by unfold bt; omega
theorem bit_shift {bit k m : Nat} (hb : bit ≤ 1) (hk : k < m) : bit * 2 ^ k < 2 ^ m := by
  have h1 : 2 ^ k < 2 ^ m := Nat.pow_lt_pow_right (by omega) hk
  have h2 : bit * 2 ^ k ≤ 1 * 2 ^ k := Nat.mul_le_mul_right _ hb
  omega
theorem crun_lt (L : List Int) (ps : List (Nat × Nat)) : (crun L ps).1 < 2 ^ ps.length := by
  induction ps using snoc_ind with
  | h0 => show 0 < 2 ^ 0; decide
  | h1 l x ih =>
    rw [crun_snoc, List.length_append]
    show (crun L l).1 ||| bt L x.1 x.2 * 2 ^ (crun L l).2 < 2 ^ (l.length + 1)
    rw [crun_at]
    refine Nat.or_lt_two_pow ?_ (bit_shift (bt_le _ _ _) (by omega))
    exact Nat.lt_of_lt_of_le ih (pow_le _ _ (by omega))
theorem crun_small (L : List Int) (ps : List (Nat × Nat)) (h : ps.length ≤ 15) : (crun L ps).1 < 32768 :=
  Nat.lt_of_lt_of_le (crun_lt L ps) (pow_le _ 15 h)
/-- The code of a list that is a graph. -/
def codeOf (L : List Int) : Nat := (crun L (rows L.length)).1

theorem wrap_shift (bit k p : Nat) (hb : bit ≤ 1) (hk : k < 40) (hp : p = bit * 2 ^ k) : wrap64 ((bit : Int) * 2 ^ k) = (p : Int) := by
  have h1 := bit_shift (m := 40) hb hk
  rw [← hp] at h1
  have e : (bit : Int) * 2 ^ k = (p : Int) := by rw [hp]; simp
  have h2 : (2 : Nat) ^ 40 = 1099511627776 := by decide
  rw [h2] at h1
  rw [e]
  unfold wrap64
  omega
end Go.Proofs.YtamabhdbcmjbjaaDoor

/- What one pair's round asks of a walk that makes a code. -/


namespace Go.Proofs.YtamabhdbcmjbjaaDoor
open Go.RowKit
set_option linter.unusedVariables false

/-- What one pair's round asks. -/
theorem code_step {L : List Int} (hg : IsGraph L) {x y k : Nat} (hx : x < y) (hy : y < L.length) (ek : (upto y x).length = k) :
    ∃ X bit p q : Nat, L[x]?.getD 0 = (X : Int) ∧ k ≤ 15 ∧ (upto y (x + 1)).length = k + 1 ∧ bits .and .i64 ((X : Int) / 2 ^ y) 1 = (bit : Int) ∧ wrap64 ((bit : Int) * 2 ^ k) = (p : Int) ∧
      bits .or .i64 (((crun L (upto y x)).1 : Nat) : Int) (p : Int) = (q : Int) ∧ (crun L (upto y (x + 1))).1 = q := by
  have h6 := hg.2.1
  have hin := (hg.2.2 x (by omega)).1
  have hX := ent_int hin
  have hXl := ent_lt hin
  have h64 := two_le h6
  have hup := upto_length y x (by omega) (by omega)
  have hst := crun_snoc L (upto y x) (x, y)
  have hat := crun_at L (upto y x)
  have hsm := crun_small L (upto y x) hup
  have hk1 : (upto y (x + 1)).length = k + 1 := by rw [upto_succ, List.length_append, ek]; rfl
  rw [← upto_succ] at hst
  rw [ek] at hup hat
  obtain ⟨bit, eb, hb, f1⟩ := and_facts (ent L x) y (by omega)
  have e1 : bt L x y = bit := by unfold bt; exact eb.symm
  have f2 := wrap_shift bit k _ hb (by omega) rfl
  have hp : bit * 2 ^ k < 2 ^ 16 := bit_shift hb (by omega)
  have hp2 : bit * 2 ^ k < 9223372036854775808 := Nat.lt_trans hp (by decide)
  have f3 := i64_or_nat (crun L (upto y x)).1 (bit * 2 ^ k) (Nat.lt_trans hsm (by decide)) hp2
  refine ⟨ent L x, bit, bit * 2 ^ k, _, hX, hup, hk1, f1, f2, f3, ?_⟩
  rw [hst]
  show (crun L (upto y x)).1 ||| bt L x y * 2 ^ (crun L (upto y x)).2 = _
  rw [hat, e1]
end Go.Proofs.YtamabhdbcmjbjaaDoor

/- The model's GraphCode. -/



namespace Go.Proofs.YtamabhdbcmjbjaaDoor
open Go.RowKit
set_option linter.unusedVariables false


set_option maxHeartbeats 1000000 in
theorem specCode_seen (A : Option Addr) (c : Nat) (L : List Int) (hg : IsGraph L) (w : World) (h : Seen w A L) :
    Calls Tryd.prog 37 #[.slice A L.length c] w (Num w (codeOf L)) := by
  have h1 := hg.1
  have h6 := hg.2.1
  obtain ⟨n, hn⟩ : ∃ n, n = L.length := ⟨_, rfl⟩
  rw [← hn] at h1 h6 ⊢
  have HN := Lib.hid hn
  have H := Lib.hid h
  have HG := Lib.hid hg
  clear h hg hn
  go_enter Tryd.func37, Tryd.ntmps37
  go_wp2
  go_loop [3, 4, 5, 6] (fun r at_ b _ => ∃ y q k : Nat, 1 ≤ y ∧ y ≤ n ∧ b = .int .i64 y ∧ at_ = .int .i64 k ∧ r = .int .i64 q ∧ Hid ((rows y).length = k) ∧ Hid ((crun L (rows y)).1 = q)) (fun _ _ b _ => n - (intOf b).toNat)
  case atStart => exact ⟨1, 0, 0, by omega, h1, rfl, rfl, rfl, Lib.hid rfl, Lib.hid rfl⟩
  case round =>
    obtain ⟨y, q, k, hy1, hyn, rfl, rfl, rfl, hk, hq⟩ := hrel
    by_cases hlt : y < n
    · have hi2 : (y : Int) < (n : Int) := by omega
      go_wp2
      go_loop [3, 4, 6] (fun r at_ a => ∃ x q k : Nat, x ≤ y ∧ a = .int .i64 x ∧ at_ = .int .i64 k ∧ r = .int .i64 q ∧ Hid ((upto y x).length = k) ∧ Hid ((crun L (upto y x)).1 = q)) (fun _ _ a => y - (intOf a).toNat)
      case atStart => exact ⟨0, q, k, Nat.zero_le _, rfl, rfl, rfl, Lib.hid (by rw [upto_zero]; exact hk.out), Lib.hid (by rw [upto_zero]; exact hq.out)⟩
      case round =>
        obtain ⟨x, q2, k2, hxy, rfl, rfl, rfl, hk2, hq2⟩ := hrel
        by_cases hlx : x < y
        · obtain ⟨blk, off, rfl, hbl, hc⟩ := H.out x (by have := HN.out; omega)
          obtain ⟨X, bit, p, q3, eX, hk15, hk3, f1, f2, f3, f4⟩ := code_step HG.out hlx (by have := HN.out; omega) hk2.out
          rw [eX] at hc
          rw [hq2.out] at f3
          have F4 := Lib.hid f4
          have K3 := Lib.hid hk3
          have hi1 : (0 : Int) ≤ (x : Int) ∧ (x : Int) < (n : Int) := by omega
          clear f4 hk3 eX hbl
          go_wp2
          go_round
          case rel => exact ⟨x + 1, q3, k2 + 1, by omega, by go_num, by go_num, rfl, K3, F4⟩
          case measure => simp [intOf]; omega
        · have hxe : x = y := by omega
          subst hxe
          go_wp2
          go_round
          case rel => exact ⟨x + 1, q2, k2, by omega, by omega, by go_num, rfl, rfl, Lib.hid (by rw [← upto_end]; exact hk2.out), Lib.hid (by rw [← upto_end]; exact hq2.out)⟩
          case measure => simp [intOf]; omega
    · have hye : y = n := by omega
      subst hye
      go_wp2
      go_ret
      exact ⟨ret_int (by rw [← hq.out, HN.out]; rfl), rfl⟩
end Go.Proofs.YtamabhdbcmjbjaaDoor

/- The program's code of a graph, by a range over the pairs. -/






namespace Go.Proofs.YtamabhdbcmjbjaaDoor
open Go.RowKit Go.Shelf
attribute [local go_sem] Oper.semAt_some
set_option linter.unusedVariables false
set_option maxRecDepth 100000

/-- Between two rounds of code: the graph's box, the number so far, the place. -/
def CodeI (n₀ : Nat) (S : Value) (L : List Int) (m : Nat) (pre : List (Pr m)) (W : World) : Prop :=
  Boxed W n₀ 41 S ∧ Boxed W (n₀ + 1) 3 (.int .i64 ((crun L (vals pre)).1 : Nat)) ∧ Boxed W (n₀ + 1 + 1) 3 (.int .i64 (pre.length : Nat))
theorem codeI_own (n₀ : Nat) (S : Value) (L : List Int) (m : Nat) : Own (CodeI n₀ S L m) := fun s X Y row hs hg hr =>
  ⟨boxed_own _ _ (fun _ : Unit => _) () X Y row hs.1 hg hr, boxed_own _ _ (fun _ : Unit => _) () X Y row hs.2.1 hg hr, boxed_own _ _ (fun _ : Unit => _) () X Y row hs.2.2 hg hr⟩

set_option maxRecDepth 100000 in
set_option maxHeartbeats 2000000 in
theorem implCode_in (A : Option Addr) (c : Nat) (L : List Int) (hg : IsGraph L) (w : World) (h : Seen w A L) :
    CallsIn Fence.wide 5 Tryd.prog 39 #[.slice A L.length c] w (NumB w (codeOf L)) := by
  have h1 := hg.1
  have h6 := hg.2.1
  obtain ⟨blk, off, hA0, hbl0, _⟩ := h 0 (by omega)
  obtain ⟨n, hn⟩ : ∃ n, n = L.length := ⟨_, rfl⟩
  rw [← hn] at h1 h6 ⊢
  subst hA0
  have HN := Lib.hid hn
  have H := Lib.hid h
  have HG := Lib.hid hg
  clear h hg hn
  refine callsIn_of_wp_marks Tryd.func39 rfl trivial ?_ rfl
  simp only [Tryd.ntmps39, List.size_toArray, List.length_cons, List.length_nil, Nat.reduceAdd, Nat.reduceSub, Array.replicate_succ, Array.replicate_zero, List.push_toArray, List.append_toArray, List.nil_append, List.cons_append]
  gi_wp2_with (refine ⟨trivial, ?_⟩; gi_at_call 67; refine (callsIn_wide.2 (pairs_any n _)).mono ?_; rintro e w' ⟨rfl, rfl⟩)
  obtain ⟨W, eW⟩ : ∃ W, W = (((w.alloc (.cells #[.slice (some ⟨blk, off, none⟩) n c] 41)).alloc (.cells #[.int .i64 0] 3)).alloc (.cells #[.int .i64 0] 3)).alloc (.cells #[.int .i64 n] 3) := ⟨_, rfl⟩
  have sW : W.heap.size = w.heap.size + 1 + 1 + 1 + 1 := by rw [eW]; simp
  have hBW : Below w.heap.size w W := by rw [eW]; exact ((((Below.refl _ w).alloc (Nat.le_refl _) _).alloc (by simp) _).alloc (by simp; omega) _).alloc (by simp; omega) _
  have b0 : Boxed W w.heap.size 41 (.slice (some ⟨blk, off, none⟩) n c) := by rw [eW]; exact (((Boxed.new w _ _).alloc _).alloc _).alloc _
  have b1 : Boxed W (w.heap.size + 1) 3 (.int .i64 0) := by
    rw [eW]; have h := Boxed.new (w.alloc (.cells #[.slice (some ⟨blk, off, none⟩) n c] 41)) 3 (.int .i64 0); rw [World.size_alloc] at h; exact (h.alloc _).alloc _
  have b2 : Boxed W (w.heap.size + 1 + 1) 3 (.int .i64 0) := by
    rw [eW]; have h := Boxed.new ((w.alloc (.cells #[.slice (some ⟨blk, off, none⟩) n c] 41)).alloc (.cells #[.int .i64 0] 3)) 3 (.int .i64 0); rw [World.size_alloc, World.size_alloc] at h; exact h.alloc _
  have b3 : W.cell? ⟨w.heap.size + 1 + 1 + 1, 0, none⟩ = some (.int .i64 n) := by
    rw [eW]; have h := Boxed.new (((w.alloc (.cells #[.slice (some ⟨blk, off, none⟩) n c] 41)).alloc (.cells #[.int .i64 0] 3)).alloc (.cells #[.int .i64 0] 3)) 3 (.int .i64 n); rw [World.size_alloc, World.size_alloc, World.size_alloc] at h; exact h.cell
  rw [← eW]
  clear eW
  obtain ⟨n₀, en⟩ : ∃ n₀, n₀ = w.heap.size := ⟨_, rfl⟩
  rw [← en] at sW hBW b0 b1 b2 b3 hbl0 ⊢
  have EN := Lib.hid en
  have SW := Lib.hid sW
  have hle : n₀ ≤ w.heap.size := by omega
  have hleW : n₀ + 1 + 1 + 1 < W.heap.size := by omega
  clear en sW
  refine wpIn_rangeFunc_ownF (α := Pr n) rfl (by omega) (gf := 80) (lb := #[.pointer (some ⟨n₀ + 1 + 1 + 1, 0, none⟩)]) rfl trivial (enters_of Tryd.func80 (by kernel_rfl) rfl)
    (pairs_stops Fence.wide _ trivial rfl (by omega) (n₀ + 1 + 1 + 1) n h6 W (by omega) b3) (fun _ _ => trivial) (fun _ _ _ _ _ _ _ _ => trivial) (Below.refl _ _) (fun _ => rfl)
    (fun pre W => CodeI n₀ (.slice (some ⟨blk, off, none⟩) n c) L n pre W ∧ Below n₀ w W) (fun _ _ _ => False)
    (OwnFrom.and (Own.from (codeI_own _ _ _ _) _) (ownFrom_below hle (by omega))) (fun _ _ _ _ _ hs _ _ => hs)
    ⟨⟨b0, b1, b2⟩, hBW⟩
    (fun x => { tmps := #[.slice (some ⟨blk, off, none⟩) n c, .pointer (some ⟨n₀, 0, none⟩), .int .i64 0, .pointer (some ⟨n₀ + 1, 0, none⟩), .pointer (some ⟨n₀ + 1 + 1, 0, none⟩), .int .i64 (x.1.1 : Int), .int .i64 (x.1.2 : Int), .slice (some ⟨blk, off, none⟩) n c, .int .i64 n,
      .func (.func 80) #[] #[.pointer (some ⟨n₀ + 1 + 1 + 1, 0, none⟩)], .int .i64 (x.1.1 : Int), .int .i64 (x.1.2 : Int), undef, undef, undef, undef, undef, undef, undef, undef, undef, undef, undef], defers := [] }) ?assign ?body ?done ?stop
  case assign =>
    intro l x W K hK
    gi_wp2
    exact hK
  case body =>
    rintro l pre x Wr ⟨⟨c0, c1, c2⟩, hB⟩ hlen
    obtain ⟨⟨u, v⟩, hu, hv⟩ := x
    dsimp only at hu hv ⊢
    obtain ⟨k, ek⟩ : ∃ k, k = pre.length := ⟨_, rfl⟩
    have hk1 : (pre ++ [(⟨(u, v), hu, hv⟩ : Pr n)]).length = k + 1 := by rw [List.length_append, ek]; rfl
    have hst := crun_snoc L (vals pre) (u, v)
    have hat := crun_at L (vals pre)
    have hsm := crun_small L (vals pre) (by rw [vals_length]; omega)
    have hvs := vals_snoc pre (⟨(u, v), hu, hv⟩ : Pr n)
    dsimp only at hvs
    rw [← hvs] at hst
    rw [vals_length, ← ek] at hat
    rw [← ek] at c2 hlen
    obtain ⟨q, eq⟩ : ∃ q, q = (crun L (vals pre)).1 := ⟨_, rfl⟩
    rw [← eq] at c1 hsm
    obtain ⟨blk1, off1, hA1, hbl1, hc1⟩ := H.out u (by have := HN.out; omega)
    have e1 : blk = blk1 ∧ off = off1 := by injection hA1 with e; injection e with e1 e2; exact ⟨e1, e2⟩
    obtain ⟨rfl, rfl⟩ := e1
    have hin := (HG.out.2.2 u (by have := HN.out; omega)).1
    have hX := ent_int hin
    have hXl := ent_lt hin
    have h64 := two_le (n := L.length) (by have := HN.out; omega)
    obtain ⟨X, eX⟩ : ∃ X, X = ent L u := ⟨_, rfl⟩
    rw [← eX] at hX hXl
    rw [hX] at hc1
    have hcu : Wr.cell? ⟨blk, off + u, none⟩ = some (.int .i64 X) := (hB.cell (p := ⟨blk, off + u, none⟩) hbl0).trans hc1
    have hXs : X < 1048576 := by omega
    have hvs40 : v < 40 := by omega
    have hun : u < n := by omega
    have hq2 : (crun L (vals (pre ++ [(⟨(u, v), hu, hv⟩ : Pr n)]))).1 = q ||| (X / 2 ^ v % 2) * 2 ^ k := by
      rw [hst]
      show (crun L (vals pre)).1 ||| bt L u v * 2 ^ (crun L (vals pre)).2 = _
      rw [hat, ← eq]
      unfold bt
      rw [← eX]
    have HK := Lib.hid hk1
    have HQ := Lib.hid hq2
    have C0 := Lib.hid c0
    have C1 := Lib.hid c1
    have C2 := Lib.hid c2
    have z0 := c0.cell
    have z1 := c1.cell
    have z2 := c2.cell
    have y1 := c1.frozen
    have y2 := c2.frozen
    have w1 := wrap_pow k (by omega)
    obtain ⟨p, ep⟩ : ∃ p, p = 2 ^ k := ⟨_, rfl⟩
    have hp : p < 2 ^ 15 := by rw [ep]; exact Nat.pow_lt_pow_right (by omega) hlen
    rw [← ep] at w1
    have w2 : IntKind.i64.wrap ((2 : Int) ^ k) = (p : Int) := by rw [IntKind.wrap_i64]; unfold wrap64 at w1; exact w1
    have w3 := i64_or_nat q p (Nat.lt_trans hsm (by decide)) (Nat.lt_trans hp (by decide))
    have EP := Lib.hid ep
    clear hk1 hq2 c0 c1 c2 hst hat hvs ek eq hA1 hbl1 hc1 hin hX hXl h64 eX ep hp hsm
    by_cases hbit : X / 2 ^ v % 2 = 1
    · have hbb : (X / 2 ^ v % 2 == 1) = true := by simp [hbit]
      have HBT := Lib.hid hbit
      clear hbit
      have hmx : Tryd.prog.follows .mixedOrders = true := by kernel_rfl
      gi_wp2_with (refine ⟨trivial, ?_⟩; gi_at_call 60; refine (CallsIn.inRound l (callsIn_wide.2 (edge_any blk off n c u v X _ hXs hun hvs40 hcu))).mono ?_; rw [hbb]; rintro e w' ⟨rfl, rfl⟩)
      gi_region_with_o (fail)
      all_goals gi_wp2
      all_goals (try go_bits)
      all_goals
        refine ⟨((KeepsOthers.setCell _ _ _).trans (KeepsOthers.setCell _ _ _)).trans (KeepsOthers.drew _), trivial, ⟨(C0.out.other (by omega) _).other (by omega) _, ?_, ?_⟩, ((hB.setCell (p := ⟨n₀ + 1, 0, none⟩) (by show n₀ ≤ n₀ + 1; omega) _).setCell (p := ⟨n₀ + 1 + 1, 0, none⟩) (by show n₀ ≤ n₀ + 1 + 1; omega) _).drew⟩
        · rw [HQ.out, HBT.out, Nat.one_mul, ← EP.out]; exact (C1.out.set _).other (by omega) _
        · rw [HK.out]; exact (C2.out.other (by omega) _).set _
    · have hb0 : X / 2 ^ v % 2 = 0 := by omega
      have hbb : (X / 2 ^ v % 2 == 1) = false := by simp [hb0]
      have HBT := Lib.hid hb0
      clear hbit hb0
      gi_wp2_with (refine ⟨trivial, ?_⟩; gi_at_call 60; refine (CallsIn.inRound l (callsIn_wide.2 (edge_any blk off n c u v X _ hXs hun hvs40 hcu))).mono ?_; rw [hbb]; rintro e w' ⟨rfl, rfl⟩)
      refine ⟨KeepsOthers.setCell _ _ _, trivial, ⟨C0.out.other (by omega) _, ?_, ?_⟩, hB.setCell (p := ⟨n₀ + 1 + 1, 0, none⟩) (by show n₀ ≤ n₀ + 1 + 1; omega) _⟩
      · rw [HQ.out, HBT.out, Nat.zero_mul, Nat.or_zero]; exact C1.out.other (by omega) _
      · rw [HK.out]; exact C2.out.set _
  case done =>
    rintro D xs Wr hD hS ⟨⟨c0, c1, c2⟩, hB⟩ hK
    have z1 := c1.cell
    have HS := Lib.hid hS
    clear hS
    gi_wp2
    refine ⟨by simp, .inl ⟨_, _, rfl, run_takeDeferred hK, ?_⟩⟩
    refine ⟨_, results_tmp rfl _ _ _, ?_⟩
    refine ⟨?_, ?_⟩
    · unfold codeOf
      rw [← HN.out, ← HS.out]
      rfl
    · rw [← EN.out]
      exact hB.trans (belowK_b (w := w) hle Wr D _ _ (by have := EN.out; omega) hK rfl rfl)
  case stop =>
    rintro D cd pre W _ _ h _
    exact h.elim
end Go.Proofs.YtamabhdbcmjbjaaDoor

/- The program's code of a graph, by a range over the pairs. -/







namespace Go.Proofs.YtamabhdbcmjbjaaDoor
open Go.RowKit Go.Shelf
attribute [local go_sem] Oper.semAt_some
set_option linter.unusedVariables false

/-- How a call that tells a number and true ends. -/
def NumOk (w : World) (x : Nat) (ok : Bool) (e : Ending) (w' : World) : Prop := e = .returned (.tuple #[.int .i64 (x : Nat), .bool ok]) ∧ Below w.heap.size w w'
end Go.Proofs.YtamabhdbcmjbjaaDoor

/- The members of a code are the edges. Plain mathematics, no condition. -/

namespace Go.Proofs.YtamabhdbcmjbjaaDoor
open Go Go.RowKit

/-- The ones among the last places. -/
def pcf : Nat → Nat → Nat
  | 0, _ => 0
  | f + 1, x => x % 2 + pcf f (x / 2)
theorem pcf_zero (f : Nat) : pcf f 0 = 0 := by
  induction f with
  | zero => rfl
  | succ f ih => show 0 % 2 + pcf f (0 / 2) = 0; rw [Nat.zero_div, ih]
theorem pcf_le (f x : Nat) : pcf f x ≤ f := by
  induction f generalizing x with
  | zero => exact Nat.le_refl _
  | succ f ih => show x % 2 + pcf f (x / 2) ≤ f + 1; have := ih (x / 2); omega
theorem pcf_add (f k q b : Nat) (hk : k < f) (hq : q < 2 ^ k) (hb : b ≤ 1) : pcf f (q + b * 2 ^ k) = pcf f q + b := by
  induction f generalizing k q with
  | zero => omega
  | succ f ih =>
    show (q + b * 2 ^ k) % 2 + pcf f ((q + b * 2 ^ k) / 2) = q % 2 + pcf f (q / 2) + b
    cases k with
    | zero =>
      have h0 : q = 0 := by simpa using hq
      subst h0
      have h1 : (0 + b * 2 ^ 0) = b := by simp
      have h2 : b / 2 = 0 := by omega
      rw [h1, h2, Nat.zero_div, pcf_zero]
      omega
    | succ k =>
      obtain ⟨p, hp⟩ : ∃ p, p = b * 2 ^ k := ⟨_, rfl⟩
      have e : b * 2 ^ (k + 1) = 2 * p := by rw [hp, Nat.pow_succ, ← Nat.mul_assoc]; omega
      have h1 : (q + 2 * p) % 2 = q % 2 := by omega
      have h2 : (q + 2 * p) / 2 = q / 2 + p := by omega
      have h3 : q / 2 < 2 ^ k := by rw [Nat.pow_succ] at hq; omega
      rw [e, h1, h2, hp, ih k (q / 2) (by omega) h3]
      omega

theorem or_add (q b k : Nat) (hq : q < 2 ^ k) : q ||| b * 2 ^ k = q + b * 2 ^ k := by
  have h := Nat.two_pow_add_eq_or_of_lt hq b
  rw [Nat.mul_comm b, Nat.or_comm, ← h]
  omega

/-- The edges among some pairs. -/
def edgesIn (L : List Int) (ps : List (Nat × Nat)) : List (Nat × Nat) := ps.filter (fun p => bt L p.1 p.2 == 1)
theorem pc_crun (L : List Int) (ps : List (Nat × Nat)) (h : ps.length ≤ 15) : pcf 15 (crun L ps).1 = (edgesIn L ps).length := by
  induction ps using snoc_ind with
  | h0 => show pcf 15 0 = 0; exact pcf_zero 15
  | h1 l x ih =>
    rw [List.length_append] at h
    have hl : l.length < 15 := by simp at h; omega
    rw [crun_snoc]
    show pcf 15 ((crun L l).1 ||| bt L x.1 x.2 * 2 ^ (crun L l).2) = _
    rw [crun_at, or_add _ _ _ (crun_lt L l), pcf_add 15 l.length _ _ hl (crun_lt L l) (bt_le _ _ _), ih (by omega)]
    unfold edgesIn
    rw [List.filter_append, List.length_append]
    have := bt_le L x.1 x.2
    by_cases h1 : bt L x.1 x.2 = 1
    · simp [h1]
    · have h0 : bt L x.1 x.2 = 0 := by omega
      simp [h0]
def edgesN (L : List Int) : Nat := pcf 15 (codeOf L)
theorem edgesN_le (L : List Int) : edgesN L ≤ 15 := pcf_le _ _
end Go.Proofs.YtamabhdbcmjbjaaDoor

/- The model's number of edges of a code. -/




namespace Go.Proofs.YtamabhdbcmjbjaaDoor
open Go.RowKit
set_option linter.unusedVariables false
set_option maxRecDepth 100000

set_option maxHeartbeats 400000 in
theorem size_code (x : Nat) (hx : x < 32768) (w : World) : Calls Tryd.prog 70 #[.int .i64 x] w (Num w (pcf 15 x)) := by
  go_enter Tryd.func70, Tryd.ntmps70
  go_wp2
  go_loop [0, 3] (fun s r => ∃ y q f : Nat, y < 32768 ∧ q + f ≤ 15 ∧ s = .int .i64 y ∧ r = .int .i64 q ∧ Hid (y < 2 ^ f ∧ q + pcf f y = pcf 15 x)) (fun s _ => (intOf s).toNat)
  case atStart => exact ⟨x, 0, 15, hx, by omega, rfl, rfl, Lib.hid ⟨hx, by omega⟩⟩
  case round =>
    obtain ⟨y, q, f, hy, hq, rfl, rfl, hs⟩ := hrel
    by_cases h0 : 0 < y
    · have hz : decide ((0 : Int) < (y : Int)) = true := by simpa using h0
      have hb := bit_of y 0 (by omega)
      simp only [Nat.pow_zero, Nat.div_one, Int.pow_zero, Int.ediv_one] at hb
      obtain ⟨g, eg⟩ : ∃ g, f = g + 1 := by
        cases f with
        | zero => have := hs.out.1; omega
        | succ g => exact ⟨g, rfl⟩
      subst eg
      obtain ⟨bit, eb⟩ : ∃ bit, bit = y % 2 := ⟨_, rfl⟩
      rw [← eb] at hb
      have hbit : bit ≤ 1 := by omega
      obtain ⟨z, ez⟩ : ∃ z, z = y / 2 := ⟨_, rfl⟩
      have hzy : z < y := by omega
      have hd : (y : Int) / 2 = (z : Int) := by omega
      have st : z < 2 ^ g ∧ (q + bit) + pcf g z = pcf 15 x := by
        obtain ⟨s1, s2⟩ := hs.out
        rw [Nat.pow_succ] at s1
        refine ⟨by omega, ?_⟩
        rw [← s2]
        show _ = q + (y % 2 + pcf g (y / 2))
        rw [← eb, ← ez]
        omega
      have ST := Lib.hid st
      clear st eb ez hs
      go_wp2
      go_round
      case rel => exact ⟨z, q + bit, g, by omega, by omega, rfl, by go_num, ST⟩
      case measure => simp [intOf]; omega
    · have hz : decide ((0 : Int) < (y : Int)) = false := by simp; omega
      have hy0 : y = 0 := by omega
      subst hy0
      go_wp2
      go_ret
      exact ⟨ret_int (by have h1 := hs.out.2; rw [pcf_zero] at h1; omega), rfl⟩

end Go.Proofs.YtamabhdbcmjbjaaDoor

/- A region that draws its order, inside a round of a range over a function: if all its operations but the last ones leave the world alone, and those last ones come one by one behind all others, then one walk of the text's order serves every order. -/





namespace Go.Proofs.YtamabhdbcmjbjaaDoor
open Go
set_option linter.unusedVariables false

section
variable {n rnd : Nat} {P : Program} {ops : Array Oper} {md : Region.Mode} {w : World}

/-- No operation of a list is put off. -/
def noPut : List Oper → Bool
  | [] => true
  | o :: l => (match o.op with | .defer _ => false | _ => true) && noPut l
theorem noPut_spec : ∀ {l : List Oper}, noPut l = true → ∀ (i : Nat) (o : Oper), l[i]? = some o → ∀ c, o.op ≠ .defer c
  | [], _, i, o, h, _ => by simp at h
  | x :: l, hp, i, o, h, c => by
    simp only [noPut, Bool.and_eq_true] at hp
    cases i with
    | zero =>
      simp at h
      subst h
      intro e
      rw [e] at hp
      simp at hp
    | succ i => exact noPut_spec hp.2 i o (by simpa using h) c

theorem wpIn_of_still_round {o : Oper} {a : Act} {K : Act → Prop} {K' : Act → World → Prop} {Q' : Exit → Act → World → Prop} (hd : ∀ c, o.op ≠ .defer c) (h : ∀ a, K a → K' a w) (hh : o.still P a w K) : o.wpIn (Fence.wide.inRound rnd) n P a w K' Q' := by
  unfold Oper.still at hh
  unfold Oper.wpIn
  refine ⟨fun _ _ => trivial, ?_⟩
  rw [Oper.semAt_eq _ _ _ hd]
  generalize (execOp a.eval o).run P w = r at *
  cases r with
  | ok x w' =>
    cases x <;> simp only [Oper.stillUpon] at hh <;> simp only [Oper.uponIn]
    case enter f args =>
      obtain ⟨rfl, v, hc, hn⟩ := hh
      exact ⟨fun e => (by cases e), (CallsIn.inRound rnd (callsIn_wide.2 hc)).mono fun e w'' ⟨he, hw⟩ => by subst he; subst hw; exact h _ hn⟩
    all_goals (obtain ⟨rfl, h2⟩ := hh; exact h _ h2)
  | halt x w' => simp only [Oper.stillUpon] at hh

theorem wpOpIn_of_stOp_round {i : Nat} {a : Act} {K : Act → Prop} {K' : Act → World → Prop} {Q' : Exit → Act → World → Prop} (hd : ∀ (i : Nat) (o : Oper), ops[i]? = some o → ∀ c, o.op ≠ .defer c) (h : ∀ a, K a → K' a w) (hh : stOp P ops w i K a) : wpOpIn (Fence.wide.inRound rnd) n P ops Q' i K' a w := by
  unfold stOp at hh
  unfold wpOpIn
  split
  · rename_i ho; simp only [ho] at hh; exact h _ hh
  · rename_i o ho
    simp only [ho] at hh
    split
    · rename_i hw; simp only [hw, if_true] at hh; exact wpIn_of_still_round (hd i o ho) h hh
    · rename_i hw; simp only [hw] at hh; exact ⟨fun _ _ => trivial, h _ hh⟩

theorem wpAnyIn_of_head {k g : Nat} {L : Array Bool → Act → Prop} {Q' : Exit → Act → World → Prop} (hd : ∀ (i : Nat) (o : Oper), ops[i]? = some o → ∀ c, o.op ≠ .defer c) (hL : ∀ listed a, L listed a → wpAnyIn (Fence.wide.inRound rnd) n P md ops Q' g listed a w) :
    ∀ (f : Nat) (listed : Array Bool) (a : Act), wpAnyL P md ops w k L f listed a → wpAnyIn (Fence.wide.inRound rnd) n P md ops Q' (f + g) listed a w
  | 0, listed, a, h => by rw [Nat.zero_add]; exact hL _ _ h
  | f + 1, listed, a, h => by
    rw [show f + 1 + g = (f + g) + 1 by omega]
    exact ⟨fun h0 => absurd h0 h.1, fun i hi => wpOpIn_of_stOp_round hd (fun a' h' => wpAnyIn_of_head hd hL f _ a' h') (h.2 i hi).2⟩

theorem wpAnyIn_of_seq {F : Fence} {Q' : Exit → Act → World → Prop} : ∀ (l : List Oper) (k : Nat) (listed : Array Bool) (a : Act) (w : World), (∀ j : Nat, l[j]? = ops[k + j]?) →
    Region.seqB md ops l.length k listed = true → wpListIn F n P ops Q' l a w → wpAnyIn F n P md ops Q' l.length listed a w
  | [], _, _, _, _, _, hB, h => ⟨by simpa [Region.seqB] using hB, h⟩
  | o :: l, k, listed, a, w, hl, hB, h => by
    have h0 : ops[k]? = some o := by simpa using (hl 0).symm
    simp only [List.length_cons, Region.seqB, Bool.and_eq_true, decide_eq_true_eq] at hB
    refine ⟨fun h1 => (by rw [hB.1] at h1; cases h1), fun i hi => ?_⟩
    rw [hB.1] at hi
    have hik : i = k := by simpa using hi
    subst hik
    have hw : wpOpIn F n P ops Q' i (wpListIn F n P ops Q' l) a w := by unfold wpOpIn; simp only [h0]; exact h
    exact wpOpIn_mono (fun a' w' h' => wpAnyIn_of_seq l (i + 1) _ a' w' (fun j => by have := hl (j + 1); simpa [Nat.add_assoc, Nat.add_comm 1 j] using this) hB.2 h') hw

/-- **The text's order serves every order, in a round.** -/
theorem wpIn_tail_round {id : Nat} {Q : Exit → Act → World → Prop} {a : Act} {l : List Oper} (k : Nat) (hm : P.follows .mixedOrders = true) (hd : noPut l = true) (hB : Region.lexTailB .any l.toArray k = true)
    (h : wpStill P l.toArray w.drew (fun a' => wpListIn (Fence.wide.inRound rnd) n P l.toArray Q (l.drop k) a' w.drew) (l.take k) a) : (Code.region id l.toArray true).wpIn (Fence.wide.inRound rnd) n P Q a w := by
  simp only [Region.lexTailB, Bool.and_eq_true, decide_eq_true_eq] at hB
  obtain ⟨⟨⟨⟨hsel, hn⟩, hs⟩, hc⟩, hlex⟩ := hB
  have hn' : k < l.length := by simpa using hn
  have htl : (l.take k).length = k := by simp; omega
  have hdl : (l.drop k).length = l.toArray.size - k := by simp
  have inv0 : HeadInv .any l.toArray k (Array.replicate l.toArray.size false) :=
    ⟨by simp, fun j oj _ hl => (by rw [getD_replicate_false] at hl; cases hl), fun t _ ht => getD_in (by simpa using ht) (getD_replicate_false _ _)⟩
  have hd' : ∀ (i : Nat) (o : Oper), l.toArray[i]? = some o → ∀ c, o.op ≠ .defer c := fun i o ho => noPut_spec hd i o (by simpa using ho)
  have H := wpAnyL_lex (md := .any) (g := l.toArray.size - k) hsel hs hc hn (l.take k) 0 _ a (fun j hj => by
    have hj' : j < k := by rw [htl] at hj; exact hj
    simp [hj']) (by simpa using htl) inv0 (by rw [htl]; exact hlex) h
  refine wpIn_region_any hm ?_
  have := wpAnyIn_of_head (rnd := rnd) (n := n) (Q' := Q) (g := l.toArray.size - k) hd' (fun listed a' hL => by
    have := wpAnyIn_of_seq (F := Fence.wide.inRound rnd) (n := n) (P := P) (md := .any) (Q' := Q) (l.drop k) k listed a' w.drew (fun j => by simp [List.getElem?_drop]) (by rw [hdl]; exact hL.1) hL.2
    rwa [hdl] at this) _ _ _ H
  rw [htl, show k + (l.toArray.size - k) = l.toArray.size by omega] at this
  exact this
end
end Go.Proofs.YtamabhdbcmjbjaaDoor

/- A region that draws its order, inside a round of a range over a function: loads that may come before or after the calls are taken first, where a condition on the world holds behind each operation; what is left comes one by one. -/






namespace Go.Proofs.YtamabhdbcmjbjaaDoor
open Go
set_option linter.unusedVariables false

section
variable {n rnd : Nat} {P : Program} {ops : Array Oper} {md : Region.Mode} {S : World → Prop}

/-- It ends as a plain operation does, and there K holds. -/
def AtN (K : Act → World → Prop) : Exit → Act → World → Prop
  | .normal, a, w => K a w
  | _, _, _ => False
theorem atN_out {K : Act → World → Prop} (h : LetsOut (AtN K)) : False := by obtain ⟨a, w, h⟩ := h; exact h

theorem wp_atN {o : Oper} {a : Act} {w : World} {K K' K2 : Act → World → Prop} {Q : Exit → Act → World → Prop} (hk : ∀ a w, K a w → K' a w) (h : o.wp P a w K (AtN K2)) : o.wp P a w K' Q := by
  unfold Oper.wp at *
  generalize (execOp a.eval o).run P w = r at *
  cases r with
  | ok x w' =>
    cases x <;> simp only [Oper.upon] at *
    case value => exact hk _ _ h
    case skip => exact hk _ _ h
    case defer => exact hk _ _ h
    case enter f args =>
      refine Calls.mono h fun e w'' he => ?_
      cases e with
      | returned u => exact hk _ _ he
      | panicked c => exact False.elim he
      | outgrown => exact (atN_out he).elim
    case row => exact Rows.mono h fun u w'' he => hk _ _ he
  | halt x w' =>
    cases x <;> simp only [Oper.upon] at *
    case panic => exact False.elim h

theorem wpOp_atN {i : Nat} {a : Act} {w : World} {K K' K2 : Act → World → Prop} {Q : Exit → Act → World → Prop} (hk : ∀ a w, K a w → K' a w) (h : wpOp P ops (AtN K2) i K a w) : wpOp P ops Q i K' a w := by
  unfold wpOp at *
  split
  · rename_i ho; simp only [ho] at h; exact hk _ _ h
  · rename_i o ho
    simp only [ho] at h
    split
    · rename_i hw
      simp only [hw, if_true] at h
      rcases h with h | ⟨_, h⟩
      · exact .inl (wp_atN hk h)
      · exact (atN_out h).elim
    · rename_i hw; simp only [hw] at h; exact hk _ _ h

/-- What is left, one by one; behind each one S holds. -/
def tailH (P : Program) (ops : Array Oper) (S : World → Prop) (K : Act → World → Prop) : List Oper → Act → World → Prop
  | [], a, w => K a w
  | o :: l, a, w => wpList P ops (AtN fun a' w' => S w' ∧ tailH P ops S K l a' w') [o] a w
theorem tailH_cons {K : Act → World → Prop} {o : Oper} {l : List Oper} {a : Act} {w : World} (h : wpList P ops (AtN fun a' w' => S w' ∧ tailH P ops S K l a' w') [o] a w) : tailH P ops S K (o :: l) a w := h

theorem wpAnyH_of_tail {K : Act → World → Prop} : ∀ (l : List Oper) (k : Nat) (listed : Array Bool) (a : Act) (w : World), (∀ j : Nat, l[j]? = ops[k + j]?) →
    Region.seqB md ops l.length k listed = true → tailH P ops S K l a w → wpAnyH P md ops (AtN K) S l.length listed a w
  | [], _, _, _, _, _, hB, h => ⟨by simpa [Region.seqB] using hB, h⟩
  | o :: l, k, listed, a, w, hl, hB, h => by
    have h0 : ops[k]? = some o := by simpa using (hl 0).symm
    simp only [List.length_cons, Region.seqB, Bool.and_eq_true, decide_eq_true_eq] at hB
    refine ⟨fun h1 => (by rw [hB.1] at h1; cases h1), fun i hi => ?_⟩
    rw [hB.1] at hi
    have hik : i = k := by simpa using hi
    subst hik
    have hw : wpOp P ops (AtN fun a' w' => S w' ∧ tailH P ops S K l a' w') i (fun a' w' => S w' ∧ tailH P ops S K l a' w') a w := by
      unfold wpOp; simp only [h0]; exact h
    exact wpOp_atN (fun a' w' h' => ⟨h'.1, wpAnyH_of_tail l (i + 1) _ a' w' (fun j => by have := hl (j + 1); simpa [Nat.add_assoc, Nat.add_comm 1 j] using this) hB.2 h'.2⟩) hw

theorem wpIn_of_wp_round {o : Oper} {a : Act} {w : World} {K K' K2 : Act → World → Prop} {Q : Exit → Act → World → Prop} (hd : ∀ c, o.op ≠ .defer c) (hab : ∀ f : Nat, True) (hk : ∀ a w, K a w → K' a w) (h : o.wp P a w K (AtN K2)) : o.wpIn (Fence.wide.inRound rnd) n P a w K' Q := by
  unfold Oper.wpIn
  refine ⟨fun _ _ => trivial, ?_⟩
  rw [Oper.semAt_eq _ _ _ hd]
  unfold Oper.wp at h
  generalize (execOp a.eval o).run P w = r at *
  cases r with
  | ok x w' =>
    cases x <;> simp only [Oper.upon] at h <;> simp only [Oper.uponIn]
    case value => exact hk _ _ h
    case skip => exact hk _ _ h
    case defer => exact hk _ _ h
    case enter f args =>
      refine ⟨fun e => (by cases e), (CallsIn.inRound rnd (callsIn_wide.2 h)).mono fun e w'' he => ?_⟩
      cases e with
      | returned u => exact hk _ _ he
      | panicked c => exact False.elim he
      | outgrown => exact (atN_out he).elim
    case row row args =>
      refine ⟨fun e => (by cases e), fun c cs _ => ?_⟩
      obtain ⟨v, w2, q, s⟩ := h c cs
      exact ⟨v, w2, hk _ _ q, stepsIn_wide.2 s⟩
  | halt x w' =>
    cases x <;> simp only [Oper.upon] at h <;> simp only [Oper.uponIn]
    case panic => exact False.elim h

theorem wpOpIn_of_wp_round {i : Nat} {a : Act} {w : World} {K K' K2 : Act → World → Prop} {Q : Exit → Act → World → Prop} (hd : ∀ (i : Nat) (o : Oper), ops[i]? = some o → ∀ c, o.op ≠ .defer c) (hk : ∀ a w, K a w → K' a w) (h : wpOp P ops (AtN K2) i K a w) :
    wpOpIn (Fence.wide.inRound rnd) n P ops Q i K' a w := by
  unfold wpOp at h
  unfold wpOpIn
  split
  · rename_i ho; simp only [ho] at h; exact hk _ _ h
  · rename_i o ho
    simp only [ho] at h
    split
    · rename_i hw
      simp only [hw, if_true] at h
      rcases h with h | ⟨_, h⟩
      · exact wpIn_of_wp_round (hd i o ho) (fun _ => trivial) hk h
      · exact (atN_out h).elim
    · rename_i hw; simp only [hw] at h; exact ⟨fun _ _ => trivial, hk _ _ h⟩

theorem wpAnyIn_of_held {K : Act → World → Prop} {Q : Exit → Act → World → Prop} (hd : ∀ (i : Nat) (o : Oper), ops[i]? = some o → ∀ c, o.op ≠ .defer c) (hQ : ∀ a w, K a w → Q .normal a w) :
    ∀ (f : Nat) (listed : Array Bool) (a : Act) (w : World), wpAnyH P md ops (AtN K) S f listed a w → wpAnyIn (Fence.wide.inRound rnd) n P md ops Q f listed a w
  | 0, listed, a, w, h => ⟨h.1, hQ _ _ h.2⟩
  | f + 1, listed, a, w, h => ⟨fun h0 => hQ _ _ (h.1 h0), fun i hi => wpOpIn_of_wp_round hd (fun a' w' h' => wpAnyIn_of_held hd hQ f _ a' w' h'.2) (h.2 i hi)⟩

/-! ### the first operations in whatever order that is allowed, the others one by one behind them all -/
def allB : Nat → List (List Bool)
  | 0 => [[]]
  | k + 1 => (allB k).flatMap fun l => [l ++ [false], l ++ [true]]
theorem allB_mem : ∀ (k : Nat) (l : List Bool), l.length = k → l ∈ allB k
  | 0, l, h => by
    have : l = [] := List.eq_nil_of_length_eq_zero h
    subst this
    simp [allB]
  | k + 1, l, h => by
    have hk : k < l.length := by omega
    have e : l = l.take k ++ [l[k]] := by rw [← List.take_succ_eq_append_getElem hk, ← h, List.take_length]
    unfold allB
    refine List.mem_flatMap.2 ⟨l.take k, allB_mem k _ (by rw [List.length_take]; omega), ?_⟩
    rw [e]
    have hl : (l.take k).length = k := by rw [List.length_take]; omega
    cases l[k] <;> simp [hl]
theorem getD_list (b : List Bool) (j : Nat) : b.toArray.getD j false = b[j]?.getD false := by
  unfold Array.getD
  by_cases h : j < b.length <;> simp [h]
/-- Whatever has come up came behind those that it waits for. -/
def Came (l : List Oper) (b : List Bool) : Prop := ∀ (i : Nat) (o : Oper), l[i]? = some o → b[i]? = some true → ∀ e ∈ o.after, Region.binds .any e = true → b[e.on]?.getD false = true
def cameB (l : List Oper) (k : Nat) (b : List Bool) : Bool :=
  (List.range k).all fun i => match l[i]? with
    | none => true
    | some o => !(b[i]?.getD false) || o.after.all fun e => !Region.binds .any e || b[e.on]?.getD false
theorem cameB_of {l : List Oper} {k : Nat} {b : List Bool} (h : Came l b) : cameB l k b = true := by
  refine List.all_eq_true.2 fun i _ => ?_
  cases ho : l[i]? with
  | none => rfl
  | some o =>
    show (!(b[i]?.getD false) || o.after.all fun e => !Region.binds .any e || b[e.on]?.getD false) = true
    cases hb : b[i]?.getD false with
    | false => rfl
    | true =>
      have hb' : b[i]? = some true := by
        cases h2 : b[i]? with
        | none => rw [h2] at hb; simp at hb
        | some x => rw [h2] at hb; simp at hb; rw [hb]
      rw [Bool.not_true, Bool.false_or, Array.all_eq_true]
      intro j hj
      have h1 := h i o ho hb' (o.after[j]) (Array.getElem_mem hj)
      cases h3 : Region.binds .any o.after[j] with
      | false => rfl
      | true => rw [h1 h3]; rfl
theorem came_set {l : List Oper} {b : List Bool} {i : Nat} {oi : Oper} (h : Came l b) (hib : i < b.length) (hoi : l[i]? = some oi) (hw : ∀ e ∈ oi.after, Region.binds .any e = true → b[e.on]?.getD false = true) : Came l (b.set i true) := by
  have up : ∀ j, b[j]?.getD false = true → (b.set i true)[j]?.getD false = true := fun j hj => by
    by_cases e : i = j
    · subst e; rw [List.getElem?_set_self hib]; rfl
    · rw [List.getElem?_set_ne e]; exact hj
  intro j o ho hb e he hbd
  by_cases hij : i = j
  · subst hij
    rw [hoi] at ho
    cases ho
    exact up _ (hw e he hbd)
  · rw [List.getElem?_set_ne hij] at hb
    exact up _ (h j o ho hb e he hbd)
/-- As long as one of the first k is left, those that may come up are some of the first k, as if there were no others. -/
def headB (l : List Oper) (k : Nat) : Bool :=
  (allB k).all fun b => b.all id || !cameB l k b || (decide (Region.ready .any l.toArray (b ++ List.replicate (l.length - k) false).toArray = Region.ready .any (l.take k).toArray b.toArray) && !(Region.ready .any (l.take k).toArray b.toArray).isEmpty)
def noGuard (l : List Oper) : Bool := l.all fun o => o.guard.isNone
theorem wanted_of {l : List Oper} (h : noGuard l = true) {i : Nat} {o : Oper} (ho : l[i]? = some o) (y : _) : Region.wanted o y = true := by
  have h1 := List.all_eq_true.1 h o (List.mem_of_getElem? ho)
  cases hg : o.guard with
  | none => simp [Region.wanted, hg]
  | some g => rw [hg] at h1; simp at h1

theorem count_set {b : List Bool} {i : Nat} (hi : i < b.length) (h0 : b[i]? = some false) : (b.set i true).count false + 1 = b.count false := by
  induction b generalizing i with
  | nil => simp at hi
  | cons x b ih =>
    cases i with
    | zero =>
      simp at h0
      subst h0
      simp
    | succ i =>
      have h1 := ih (i := i) (by simpa using hi) (by simpa using h0)
      simp only [List.set_cons_succ, List.count_cons]
      omega

theorem wpAnyIn_cut {l : List Oper} {k : Nat} {Q : Exit → Act → World → Prop} (hk : k ≤ l.length) (hd : noPut l = true) (hg : noGuard l = true) (hh : headB l k = true)
    (hs : Region.seqB .any l.toArray (l.length - k) k (List.replicate k true ++ List.replicate (l.length - k) false).toArray = true) :
    ∀ (f : Nat) (b : List Bool) (a : Act) (w : World), b.length = k → b.count false = f → Came l b →
      wpAnyH P .any (l.take k).toArray (AtN fun a' w' => wpListIn (Fence.wide.inRound rnd) n P l.toArray Q (l.drop k) a' w') S f b.toArray a w →
      wpAnyIn (Fence.wide.inRound rnd) n P .any l.toArray Q (f + (l.length - k)) (b ++ List.replicate (l.length - k) false).toArray a w
  | 0, b, a, w, hb, hc, hcm, h => by
    have hall : b = List.replicate k true := by
      refine List.eq_replicate_iff.2 ⟨hb, fun x hx => ?_⟩
      cases x with
      | true => rfl
      | false => exact absurd hx (List.count_eq_zero.1 hc)
    subst hall
    rw [Nat.zero_add]
    have h2 := wpAnyIn_of_seq (F := Fence.wide.inRound rnd) (n := n) (P := P) (md := .any) (ops := l.toArray) (Q' := Q) (l.drop k) k (List.replicate k true ++ List.replicate (l.length - k) false).toArray a w (fun j => by simp [List.getElem?_drop]) (by rw [List.length_drop]; exact hs) h.2
    rwa [List.length_drop] at h2
  | f + 1, b, a, w, hb, hc, hcm, h => by
    have hnot : b.all id = false := by
      cases e : b.all id with
      | false => rfl
      | true =>
        have h1 : b.count false = 0 := List.count_eq_zero.2 fun hm => by
          have := List.all_eq_true.1 e false hm
          simp at this
        omega
    have hB := List.all_eq_true.1 hh b (allB_mem k b hb)
    rw [hnot, cameB_of hcm, Bool.false_or, Bool.not_true, Bool.false_or, Bool.and_eq_true, decide_eq_true_eq] at hB
    obtain ⟨hr, hne⟩ := hB
    rw [show f + 1 + (l.length - k) = (f + (l.length - k)) + 1 by omega]
    refine ⟨fun h0 => ?_, fun i hi => ?_⟩
    · rw [hr] at h0
      rw [h0] at hne
      simp at hne
    · rw [hr] at hi
      obtain ⟨hju, oj, hoj, hwt⟩ := mem_ready.1 hi
      have hlt : i < k := by
        have h1 : (l.take k)[i]? = some oj := by simpa using hoj
        have h2 := (List.getElem?_eq_some_iff.1 h1).1
        rw [List.length_take] at h2
        omega
      have hoj' : l[i]? = some oj := by
        have h1 : (l.take k)[i]? = some oj := by simpa using hoj
        rw [List.getElem?_take_of_lt hlt] at h1
        exact h1
      have hb0 : b[i]? = some false := by
        have h1 : b.toArray.getD i true = false := hju
        have hib : i < b.length := by omega
        simp [Array.getD, hib] at h1
        rw [List.getElem?_eq_getElem hib, h1]
      have hop := h.2 i hi
      unfold wpOp at hop
      simp only [hoj] at hop
      rw [wanted_of (l := l.take k) (i := i) (by
        refine List.all_eq_true.2 fun o ho => List.all_eq_true.1 hg o (List.mem_of_mem_take ho)) (by simpa using hoj)] at hop
      simp only [if_true] at hop
      unfold wpOpIn
      have hoj2 : l.toArray[i]? = some oj := by simpa using hoj'
      simp only [hoj2]
      rw [wanted_of hg hoj']
      simp only [if_true]
      rcases hop with hop | ⟨_, hop⟩
      · refine wpIn_of_wp_round (fun c => noPut_spec hd i oj hoj' c) (fun _ => trivial) (fun a' w' h' => ?_) hop
        have hib : i < b.length := by omega
        have ih := wpAnyIn_cut hk hd hg hh hs f (b.set i true) a' w' (by rw [List.length_set]; exact hb) (by have := count_set hib hb0; omega) (came_set hcm hib hoj' fun e he hbd => by
          have h1 := hwt e he hbd
          rw [getD_list] at h1
          exact h1) (by simpa using h'.2)
        have e : ((b ++ List.replicate (l.length - k) false).toArray.setIfInBounds i true) = (b.set i true ++ List.replicate (l.length - k) false).toArray := by
          simp [List.set_append_left _ _ hib]
        rw [e]
        exact ih
      · exact (atN_out hop).elim

/-- **The beginning, in a round**: the first k operations under a condition on the world, the others behind them all. -/
theorem wpIn_held_round {id : Nat} {Q : Exit → Act → World → Prop} {a : Act} {w : World} {l : List Oper} (k : Nat) (S : World → Prop) (hm : P.follows .mixedOrders = true) (hk : decide (k ≤ l.length) = true) (hd : noPut l = true) (hg : noGuard l = true) (hh : headB l k = true)
    (hs : Region.seqB .any l.toArray (l.length - k) k (List.replicate k true ++ List.replicate (l.length - k) false).toArray = true)
    (h : wpAnyH P .any (l.take k).toArray (AtN fun a' w' => wpListIn (Fence.wide.inRound rnd) n P l.toArray Q (l.drop k) a' w') S k (List.replicate k false).toArray a w.drew) : (Code.region id l.toArray true).wpIn (Fence.wide.inRound rnd) n P Q a w := by
  have hk' : k ≤ l.length := of_decide_eq_true hk
  refine wpIn_region_any hm ?_
  have h2 := wpAnyIn_cut (rnd := rnd) hk' hd hg hh hs k (List.replicate k false) a w.drew (by simp) (by simp) (fun i o _ hb => by
    rw [List.getElem?_replicate] at hb
    split at hb <;> simp at hb) h
  have e1 : k + (l.length - k) = l.toArray.size := by simp; omega
  have e2 : (List.replicate k false ++ List.replicate (l.length - k) false).toArray = Array.replicate l.toArray.size false := by
    rw [List.replicate_append_replicate]
    simp
    omega
  rw [e1, e2] at h2
  exact h2
/-- What is left of a written list. -/
theorem wpAnyH_rest {K : Act → World → Prop} {L : List Oper} (k f : Nat) {listed : Array Bool} {a : Act} {w : World} (hf : decide (L.length - k = f) = true) (hB : Region.seqB md L.toArray f k listed = true)
    (h : tailH P L.toArray S K (L.drop k) a w) : wpAnyH P md L.toArray (AtN K) S f listed a w := by
  have hf' : L.length - k = f := of_decide_eq_true hf
  have hl : (L.drop k).length = f := by rw [List.length_drop]; exact hf'
  have h2 := wpAnyH_of_tail (P := P) (ops := L.toArray) (md := md) (S := S) (K := K) (L.drop k) k listed a w (fun j => by simp [List.getElem?_drop]) (by rw [hl]; exact hB) h
  rwa [hl] at h2
end
end Go.Proofs.YtamabhdbcmjbjaaDoor

/- A region that draws its order, in a round or not, by an invariant over what has come up: each operation is walked once, whatever the order. -/



namespace Go.Proofs.YtamabhdbcmjbjaaDoor
open Go
set_option linter.unusedVariables false

section
variable {F : Fence} {n : Nat} {P : Program} {md : Region.Mode} {ops : Array Oper} {Q : Exit → Act → World → Prop}

/-- How many have not come up. -/
def openN (listed : Array Bool) : Nat := listed.toList.count false
theorem count_setI {l : List Bool} {i : Nat} (h : l[i]? = some false) : (l.set i true).count false + 1 = l.count false := by
  induction l generalizing i with
  | nil => simp at h
  | cons x l ih =>
    cases i with
    | zero => simp at h; subst h; simp
    | succ i =>
      simp at h
      rw [List.set_cons_succ, List.count_cons, List.count_cons, ← ih h]
      omega
theorem openN_set {listed : Array Bool} {i : Nat} (h : listed.getD i true = false) : openN (listed.setIfInBounds i true) + 1 = openN listed := by
  unfold openN
  rw [Array.toList_setIfInBounds]
  refine count_setI ?_
  have hlt : i < listed.size := by
    refine Nat.lt_of_not_le fun h2 => ?_
    rw [Array.getD, dif_neg (by omega)] at h
    cases h
  rw [Array.getD, dif_pos hlt] at h
  rw [Array.getElem?_toList, Array.getElem?_eq_getElem hlt]
  exact congrArg some h

theorem wpAnyIn_inv (I : Array Bool → Act → World → Prop)
    (hstep : ∀ listed a w i, I listed a w → i ∈ Region.ready md ops listed → wpOpIn F n P ops Q i (I (listed.setIfInBounds i true)) a w)
    (hend : ∀ listed a w, I listed a w → Region.ready md ops listed = [] → Q .normal a w) :
    ∀ fuel listed a w, openN listed ≤ fuel → I listed a w → wpAnyIn F n P md ops Q fuel listed a w
  | 0, listed, a, w, hf, h => by
    have hr : Region.ready md ops listed = [] := by
      refine List.eq_nil_iff_forall_not_mem.2 fun i hi => ?_
      have h1 := openN_set (mem_ready.1 hi).1
      omega
    exact ⟨hr, hend _ _ _ h hr⟩
  | fuel + 1, listed, a, w, hf, h => by
    refine ⟨hend _ _ _ h, fun i hi => ?_⟩
    have h1 := openN_set (mem_ready.1 hi).1
    exact wpOpIn_mono (fun a' w' h2 => wpAnyIn_inv I hstep hend fuel _ a' w' (by omega) h2) (hstep _ _ _ i h hi)

/-- Each operation waits for earlier ones alone. -/
def upward (ops : Array Oper) : Bool := (List.range ops.size).all fun i => ((ops[i]?).map fun o => o.after.all fun e => !Region.binds .any e || decide (e.on < i)).getD true
theorem all_up (hu : upward ops = true) {listed : Array Bool} (hr : Region.ready .any ops listed = []) : ∀ k i, i ≤ k → i < ops.size → listed.getD i true = true
  | k, i, hk, hi => by
    cases hl : listed.getD i true
    · exfalso
      have hm : i ∈ Region.ready .any ops listed := mem_ready.2 ⟨hl, ops[i], Array.getElem?_eq_getElem hi, fun e he hbn => by
        unfold upward at hu
        have h1 := List.all_eq_true.1 hu i (List.mem_range.2 hi)
        rw [Array.getElem?_eq_getElem hi, Option.map_some, Option.getD_some] at h1
        have h2 := Array.all_eq_true_iff_forall_mem.1 h1 e he
        rw [hbn, Bool.not_true, Bool.false_or] at h2
        have h2 := of_decide_eq_true h2
        cases k with
        | zero => omega
        | succ k =>
          have h3 := all_up hu hr k e.on (by omega) (by omega)
          have hs : e.on < listed.size := Nat.lt_trans h2 (by
            refine Nat.lt_of_not_le fun h4 => ?_
            rw [Array.getD, dif_neg (by omega)] at hl
            cases hl)
          rw [Array.getD, dif_pos hs] at h3 ⊢
          exact h3⟩
      rw [hr] at hm
      cases hm
    · rfl

theorem wpIn_region_inv {id : Nat} {a : Act} {w : World} (hm : P.follows .mixedOrders = true) (I : Array Bool → Act → World → Prop)
    (h0 : I (Array.replicate ops.size false) a w.drew)
    (hstep : ∀ listed a w i, I listed a w → i ∈ Region.ready .any ops listed → wpOpIn F n P ops Q i (I (listed.setIfInBounds i true)) a w)
    (hu : upward ops = true) (hend : ∀ listed a w, I listed a w → (∀ i, i < ops.size → listed.getD i true = true) → Q .normal a w) : (Code.region id ops true).wpIn F n P Q a w :=
  wpIn_region_any hm (wpAnyIn_inv I hstep (fun _ _ _ h hr => hend _ _ _ h (fun i hi => all_up hu hr i i (Nat.le_refl _) hi)) _ _ _ _ (by unfold openN; simp) h0)
end
/-- A slot that is laid once its operation has come up. -/
def sl (b : Bool) (v : Value) : Value := if b then v else undef
theorem sl_true (v : Value) : sl true v = v := rfl
theorem sl_false (v : Value) : sl false v = undef := rfl
end Go.Proofs.YtamabhdbcmjbjaaDoor

/- A region that draws its order and only reads, inside a round of a range over a function: one walk of the text's order serves every order. -/



namespace Go.Proofs.YtamabhdbcmjbjaaDoor
open Go
set_option linter.unusedVariables false

section
variable {F : Fence} {n : Nat} {P : Program} {ops : Array Oper} {md : Region.Mode} {C : World → Prop}
theorem wpIn_of_quiet_nd {o : Oper} {a : Act} {K : Act → Prop} {K' : Act → World → Prop} {Q' : Exit → Act → World → Prop} {w : World} (hd : ∀ c, o.op ≠ .defer c) (hw : C w) (h : ∀ a w', C w' → K a → K' a w')
    (ha : o.askedIn F P a C) (hh : o.quietIn F n P a C K) : o.wpIn F n P a w K' Q' := by
  obtain ⟨v, h1, h2⟩ := hh
  have h3 := h1 w hw
  unfold Oper.quietAtIn at h3
  unfold Oper.wpIn
  refine ⟨ha w hw, ?_⟩
  rw [Oper.semAt_eq _ _ _ hd]
  generalize (execOp a.eval o).run P w = r at *
  cases r with
  | ok x w' =>
    cases x <;> simp only [Oper.quietUponIn] at h3 <;> simp only [Oper.uponIn]
    case value u =>
      obtain ⟨e1, e2⟩ := h3
      rw [e1, e2]
      exact h _ _ hw h2
    case skip =>
      obtain ⟨e1, e2⟩ := h3
      rw [e1, ← e2]
      exact h _ _ hw h2
    case enter f args =>
      obtain ⟨e1, hdp, hc⟩ := h3
      rw [e1]
      exact ⟨hdp, hc.mono fun e w'' ⟨he, hw''⟩ => by subst he; exact h _ _ hw'' h2⟩
  | halt x w' => simp only [Oper.quietUponIn] at h3
theorem wpOpIn_of_qOpIn_nd {i : Nat} {a : Act} {K : Act → Prop} {K' : Act → World → Prop} {Q' : Exit → Act → World → Prop} {w : World} (hd : ∀ (i : Nat) (o : Oper), ops[i]? = some o → ∀ c, o.op ≠ .defer c) (hC : C w) (h : ∀ a w', C w' → K a → K' a w')
    (hh : qOpIn F n P ops C i K a) : wpOpIn F n P ops Q' i K' a w := by
  unfold qOpIn at hh
  unfold wpOpIn
  split
  · rename_i ho; simp only [ho] at hh; exact h _ _ hC hh
  · rename_i o ho
    simp only [ho] at hh
    obtain ⟨ha, hh⟩ := hh
    split
    · rename_i hw; simp only [hw, if_true] at hh; exact wpIn_of_quiet_nd (hd i o ho) hC h ha hh
    · rename_i hw; simp only [hw] at hh; exact ⟨ha w hC, h _ _ hC hh⟩
theorem wpAnyIn_of_quiet_nd {Q : Act → Prop} {Q' : Exit → Act → World → Prop} (hd : ∀ (i : Nat) (o : Oper), ops[i]? = some o → ∀ c, o.op ≠ .defer c) (hQ : ∀ a w, C w → Q a → Q' .normal a w) : ∀ (fuel : Nat) (listed : Array Bool) (a : Act) (w : World), C w →
    wpAnyQIn F n P md ops C Q fuel listed a → wpAnyIn F n P md ops Q' fuel listed a w
  | 0, _, _, _, hw, h => ⟨h.1, hQ _ _ hw h.2⟩
  | fuel + 1, _, _, _, hw, h => ⟨fun h0 => hQ _ _ hw (h.1 h0), fun i hi => wpOpIn_of_qOpIn_nd hd hw (fun a' w' hw' => wpAnyIn_of_quiet_nd hd hQ fuel _ a' w' hw') (h.2 i hi)⟩
theorem wpIn_quiet_round {id : Nat} {Q : Exit → Act → World → Prop} {a : Act} {w : World} {l : List Oper} (hp : noPut l = true) (hm : P.follows .mixedOrders = true) (hB : Region.lexB .any l.toArray = true)
    (h : wpQuietIn F n P l.toArray (fun w' => ∃ n, w' = w.drewN n) (fun a' => ∀ w', (∃ n, w' = w.drewN n) → Q .normal a' w') l a) : (Code.region id l.toArray true).wpIn F n P Q a w := by
  simp only [Region.lexB, Bool.and_eq_true] at hB
  have hd : ∀ (i : Nat) (o : Oper), l.toArray[i]? = some o → ∀ c, o.op ≠ .defer c := fun i o ho => noPut_spec hp i o (by simpa using ho)
  refine wpIn_region_any hm (wpAnyIn_of_quiet_nd (C := fun w' => ∃ n, w' = w.drewN n) (Q := fun a' => ∀ w', (∃ n, w' = w.drewN n) → Q .normal a' w') hd (fun _ w' hw' h => h w' hw') _ _ _ _ ⟨1, rfl⟩ ?_)
  have := wpAnyQIn_lex (F := F) (n := n) (C := fun w' => ∃ n, w' = w.drewN n) (md := .any) hB.1 l 0 (Array.replicate l.toArray.size false) a (by simp) (by simpa using hB.2) h
  simpa using this
end
end Go.Proofs.YtamabhdbcmjbjaaDoor

/- A range over a function inside a plain loop: each entry leaves a mark among the frame's deferred calls; what the return finds there. -/




namespace Go.Proofs.YtamabhdbcmjbjaaDoor
open Go Go.RowKit
set_option linter.unusedVariables false

def mark (D : Nat) : Deferred := { target := .collected D, args := #[] }
/-- The marks' blocks: below b, none twice, none below n₀, each one still open and empty. -/
def Marks (n₀ : Nat) (Ds : List Nat) (b : Nat) (W : World) : Prop := Ds.Nodup ∧ ∀ D ∈ Ds, n₀ ≤ D ∧ D < b ∧ W.heap[D]? = some (.deferred (some []))
theorem marks_nil (n₀ b : Nat) (W : World) : Marks n₀ [] b W := ⟨List.nodup_nil, fun _ h => by cases h⟩
theorem marks_own {β : Type} (n₀ : Nat) (Ds : List Nat) (b B : Nat) (hB : b ≤ B) : OwnFrom B (fun (_ : β) W => Marks n₀ Ds b W) := fun s X Y row hs hg hr =>
  ⟨hs.1, fun D hD => by
    obtain ⟨h1, h2, h3⟩ := hs.2 D hD
    exact ⟨h1, h2, (hg.block D (Array.getElem?_eq_some_iff.1 h3).1 (fun e => by have := (hr D e.symm).1; omega)).trans h3⟩⟩
theorem marks_grown {n₀ : Nat} {Ds : List Nat} {b g : Nat} {X Y : World} (h : Marks n₀ Ds b X) (hg : X.grownBy Y (some g)) (ho : ∃ o : Obj, X.heap[g]? = some o ∧ o.isCells = true) : Marks n₀ Ds b Y :=
  ⟨h.1, fun D hD => by
    obtain ⟨h1, h2, h3⟩ := h.2 D hD
    refine ⟨h1, h2, (hg.block D (Array.getElem?_eq_some_iff.1 h3).1 (fun e => ?_)).trans h3⟩
    cases e
    obtain ⟨o, o1, o2⟩ := ho
    rw [h3] at o1
    cases o1
    cases o2⟩
theorem marks_alloc {n₀ : Nat} {Ds : List Nat} {b : Nat} {X : World} (h : Marks n₀ Ds b X) (o : Obj) : Marks n₀ Ds b (X.alloc o) :=
  ⟨h.1, fun D hD => by
    obtain ⟨h1, h2, h3⟩ := h.2 D hD
    exact ⟨h1, h2, (Below.heap_alloc _ _ _ (Array.getElem?_eq_some_iff.1 h3).1).trans h3⟩⟩
theorem marks_cons {n₀ : Nat} {Ds : List Nat} {b b' D : Nat} {X : World} (h : Marks n₀ Ds b X) (h0 : n₀ ≤ D) (hb : b ≤ D) (hb' : D < b') (h3 : X.heap[D]? = some (.deferred (some []))) : Marks n₀ (D :: Ds) b' X :=
  ⟨List.nodup_cons.2 ⟨fun hm => by have := (h.2 D hm).2.1; omega, h.1⟩, fun E hE => by
    rcases List.mem_cons.1 hE with rfl | hE
    · exact ⟨h0, hb', h3⟩
    · obtain ⟨h1, h2, h4⟩ := h.2 E hE
      exact ⟨h1, by omega, h4⟩⟩
theorem marks_up {n₀ : Nat} {Ds : List Nat} {b b' : Nat} {X : World} (h : Marks n₀ Ds b X) (hb : b ≤ b') : Marks n₀ Ds b' X :=
  ⟨h.1, fun D hD => let ⟨h1, h2, h3⟩ := h.2 D hD; ⟨h1, by omega, h3⟩⟩

/-- At the return: the marks go, one behind the other. -/
theorem leaves_marks {F : Fence} {n : Nat} {P : Program} {fn : Func} {tmps : Array Value} {R : Ending → World → Prop} {n₀ : Nat} {w : World} (hw : n₀ ≤ w.heap.size)
    (hR : ∀ W, Below n₀ w W → LeavesInM F n P fn tmps R [] .returning W) :
    ∀ (Ds : List Nat) (b : Nat) (W : World), Marks n₀ Ds b W → Below n₀ w W → LeavesInM F n P fn tmps R (Ds.map mark) .returning W
  | [], _, W, _, hb => hR W hb
  | D :: Ds, b, W, hm, hb => by
    obtain ⟨h1, h2, h3⟩ := hm.2 D (by simp)
    refine ⟨by simp, .inl ⟨_, _, rfl, run_takeDeferred h3, ?_⟩⟩
    refine leaves_marks hw hR Ds b _ ⟨(List.nodup_cons.1 hm.1).2, fun E hE => ?_⟩ ?_
    · obtain ⟨g1, g2, g3⟩ := hm.2 E (by simp [hE])
      refine ⟨g1, g2, ?_⟩
      have hne : D ≠ E := fun e => (List.nodup_cons.1 hm.1).1 (by rw [e]; exact hE)
      exact (World.putObj_heap_other hne.symm).trans g3
    · exact hb.grown (grownBy_putObj' W D _) (by have := hb.size; omega) (fun k e => by cases e; exact h1)
end Go.Proofs.YtamabhdbcmjbjaaDoor

/- The nodes to which ways lead: the model's way and the program's find one set. Plain mathematics, no condition. -/



namespace Go.Proofs.YtamabhdbcmjbjaaDoor
open Go Go.RowKit

/-- Each member of the one is one of the other. -/
def Sub (s t : Nat) : Prop := ∀ j : Nat, s.testBit j = true → t.testBit j = true
theorem Sub.refl (s : Nat) : Sub s s := fun _ h => h
theorem Sub.trans {r s t : Nat} (h : Sub r s) (k : Sub s t) : Sub r t := fun j hj => k j (h j hj)
theorem Sub.eq {s t : Nat} (h : Sub s t) (k : Sub t s) : s = t := Nat.eq_of_testBit_eq fun j => by
  have h1 := h j
  have h2 := k j
  cases e1 : s.testBit j <;> cases e2 : t.testBit j <;> simp_all
theorem sub_or {r s t : Nat} (h : Sub r t) (k : Sub s t) : Sub (r ||| s) t := fun j hj => by
  rw [Nat.testBit_or, Bool.or_eq_true] at hj
  exact hj.elim (h j) (k j)
theorem sub_left (r s : Nat) : Sub r (r ||| s) := fun j hj => by rw [Nat.testBit_or, hj]; rfl
theorem sub_right (r s : Nat) : Sub s (r ||| s) := fun j hj => by rw [Nat.testBit_or, hj]; simp
/-- Ways lead out of it nowhere else. -/
def Closed (L : List Int) (t : Nat) : Prop := ∀ v, v < L.length → t.testBit v = true → Sub (ent L v) t

/-- The model's step, and its round. -/
def grow (L : List Int) (s v : Nat) : Nat := if s.testBit v = true then s ||| ent L v else s
def turn (L : List Int) (s k : Nat) : Nat := (List.range k).foldl (grow L) s
theorem turn_zero (L : List Int) (s : Nat) : turn L s 0 = s := rfl
theorem turn_succ (L : List Int) (s k : Nat) : turn L s (k + 1) = grow L (turn L s k) k := by simp [turn, List.range_succ]
theorem grow_up (L : List Int) (s v : Nat) : Sub s (grow L s v) := by unfold grow; split; exact sub_left _ _; exact Sub.refl _
theorem turn_up (L : List Int) (s k : Nat) : Sub s (turn L s k) := by
  induction k with
  | zero => exact Sub.refl _
  | succ k ih => rw [turn_succ]; exact ih.trans (grow_up _ _ _)
theorem turn_mono (L : List Int) (s k m : Nat) (h : k ≤ m) : Sub (turn L s k) (turn L s m) := by
  induction m with
  | zero => have : k = 0 := by omega
            subst this; exact Sub.refl _
  | succ m ih =>
    by_cases hk : k = m + 1
    · subst hk; exact Sub.refl _
    · rw [turn_succ]; exact (ih (by omega)).trans (grow_up _ _ _)
theorem turn_in {L : List Int} {s t : Nat} (hs : Sub s t) (hc : Closed L t) (k : Nat) (hk : k ≤ L.length) : Sub (turn L s k) t := by
  induction k with
  | zero => exact hs
  | succ k ih =>
    rw [turn_succ]
    have h1 := ih (by omega)
    unfold grow
    split
    · exact sub_or h1 (hc k (by omega) (h1 k (by assumption)))
    · exact h1
theorem turn_closed {L : List Int} {s : Nat} (h : turn L s L.length = s) : Closed L s := fun v hv hb => by
  have h1 : Sub (ent L v) (turn L s (v + 1)) := by
    rw [turn_succ]
    unfold grow
    rw [if_pos (turn_up L s v v hb)]
    exact sub_right _ _
  have h2 := h1.trans (turn_mono L s (v + 1) L.length (by omega))
  rwa [h] at h2
theorem turn_lt {L : List Int} {s m : Nat} (hs : s < 2 ^ m) (hL : ∀ v, v < L.length → ent L v < 2 ^ m) (k : Nat) (hk : k ≤ L.length) : turn L s k < 2 ^ m := by
  induction k with
  | zero => exact hs
  | succ k ih =>
    rw [turn_succ]
    unfold grow
    split
    · exact Nat.or_lt_two_pow (ih (by omega)) (hL k (by omega))
    · exact ih (by omega)

/-- How many of the first n nodes. -/
def cntT : Nat → Nat → Nat
  | 0, _ => 0
  | n + 1, s => cntT n s + (if s.testBit n = true then 1 else 0)
theorem cntT_le_n (n s : Nat) : cntT n s ≤ n := by
  induction n with
  | zero => simp [cntT]
  | succ n ih => unfold cntT; split <;> omega
theorem cntT_mono (n : Nat) {s t : Nat} (h : Sub s t) : cntT n s ≤ cntT n t := by
  induction n with
  | zero => simp [cntT]
  | succ n ih =>
    unfold cntT
    by_cases h1 : s.testBit n = true
    · rw [if_pos h1, if_pos (h n h1)]; omega
    · rw [if_neg h1]; omega
theorem cntT_lt (n : Nat) {s t : Nat} (h : Sub s t) (j : Nat) (hj : j < n) (h1 : t.testBit j = true) (h2 : ¬ s.testBit j = true) : cntT n s < cntT n t := by
  induction n with
  | zero => omega
  | succ n ih =>
    unfold cntT
    by_cases hjn : j = n
    · subst hjn
      rw [if_pos h1, if_neg h2]
      have := cntT_mono j h
      omega
    · have h3 := ih (by omega)
      by_cases h4 : s.testBit n = true
      · rw [if_pos h4, if_pos (h n h4)]; omega
      · rw [if_neg h4]; omega
theorem cntT_one (n : Nat) (h : 1 ≤ n) : 1 ≤ cntT n 1 := by
  induction n with
  | zero => omega
  | succ n ih =>
    unfold cntT
    by_cases hn : n = 0
    · subst hn; decide
    · have := ih (by omega)
      omega

/-- The model's sets, one behind the other. -/
def turns (L : List Int) : Nat → Nat
  | 0 => 1
  | k + 1 => turn L (turns L k) L.length
theorem turns_lt {L : List Int} {m : Nat} (hm : 1 ≤ m) (hL : ∀ v, v < L.length → ent L v < 2 ^ m) (k : Nat) : turns L k < 2 ^ m := by
  induction k with
  | zero => show 1 < 2 ^ m; exact Nat.lt_of_lt_of_le (by decide) (Nat.pow_le_pow_right (n := 2) (by omega) hm)
  | succ k ih => exact turn_lt ih hL _ (Nat.le_refl _)
theorem turns_has (L : List Int) (k : Nat) : Sub 1 (turns L k) := by
  induction k with
  | zero => exact Sub.refl _
  | succ k ih => exact ih.trans (turn_up _ _ _)
theorem turns_in {L : List Int} {t : Nat} (h1 : Sub 1 t) (hc : Closed L t) (k : Nat) : Sub (turns L k) t := by
  induction k with
  | zero => exact h1
  | succ k ih => exact turn_in ih hc _ (Nat.le_refl _)
theorem turns_grow {L : List Int} (hn : 1 ≤ L.length) (hL : ∀ v, v < L.length → ent L v < 2 ^ L.length) (k : Nat) : Closed L (turns L k) ∨ k + 1 ≤ cntT L.length (turns L k) := by
  induction k with
  | zero => exact .inr (cntT_one _ hn)
  | succ k ih =>
    have hup := turn_up L (turns L k) L.length
    by_cases hsame : turn L (turns L k) L.length = turns L k
    · refine .inl ?_
      show Closed L (turn L (turns L k) L.length)
      rw [hsame]
      exact turn_closed hsame
    · rcases ih with h | h
      · exact absurd (Sub.eq (turn_in (Sub.refl _) h _ (Nat.le_refl _)) hup) hsame
      · refine .inr ?_
        have hex : ∃ j, (turn L (turns L k) L.length).testBit j = true ∧ ¬ (turns L k).testBit j = true := by
          refine Classical.byContradiction fun hno => hsame (Sub.eq (fun j hj => ?_) hup)
          refine Classical.byContradiction fun h2 => hno ⟨j, hj, h2⟩
        obtain ⟨j, j1, j2⟩ := hex
        have hj : j < L.length := by
          refine Nat.lt_of_not_le fun hle => ?_
          have h3 := turns_lt (m := L.length) hn hL (k + 1)
          have h4 : (turns L (k + 1)).testBit j = false := Nat.testBit_lt_two_pow (Nat.lt_of_lt_of_le h3 (Nat.pow_le_pow_right (n := 2) (by omega) hle))
          rw [show turns L (k + 1) = turn L (turns L k) L.length from rfl, j1] at h4
          cases h4
        have := cntT_lt L.length hup j hj j1 j2
        show k + 1 + 1 ≤ cntT L.length (turn L (turns L k) L.length)
        omega
theorem turns_closed {L : List Int} (hn : 1 ≤ L.length) (hL : ∀ v, v < L.length → ent L v < 2 ^ L.length) : Closed L (turns L L.length) := by
  rcases turns_grow hn hL L.length with h | h
  · exact h
  · have := cntT_le_n L.length (turns L L.length)
    omega

/-- The program's round. -/
def wide (L : List Int) (s : Nat) (pre : List Nat) : Nat := pre.foldl (fun r v => r ||| ent L v) s
theorem wide_nil (L : List Int) (s : Nat) : wide L s [] = s := rfl
theorem wide_snoc (L : List Int) (s : Nat) (pre : List Nat) (v : Nat) : wide L s (pre ++ [v]) = wide L s pre ||| ent L v := by simp [wide]
theorem wide_ge (L : List Int) (s : Nat) (pre : List Nat) : s ≤ wide L s pre := by
  induction pre using snoc_ind with
  | h0 => exact Nat.le_refl _
  | h1 l x ih => rw [wide_snoc]; exact Nat.le_trans ih Nat.left_le_or
theorem wide_up (L : List Int) (s : Nat) (pre : List Nat) : Sub s (wide L s pre) := by
  induction pre using snoc_ind with
  | h0 => exact Sub.refl _
  | h1 l x ih => rw [wide_snoc]; exact ih.trans (sub_left _ _)
theorem wide_has (L : List Int) (s : Nat) (pre : List Nat) (v : Nat) (hv : v ∈ pre) : Sub (ent L v) (wide L s pre) := by
  induction pre using snoc_ind with
  | h0 => cases hv
  | h1 l x ih =>
    rw [wide_snoc]
    rcases List.mem_append.1 hv with h | h
    · exact (ih h).trans (sub_left _ _)
    · rw [List.mem_singleton.1 h]; exact sub_right _ _
theorem wide_in {L : List Int} {s t : Nat} (hs : Sub s t) (hc : Closed L t) (pre : List Nat) (hp : ∀ v ∈ pre, v < L.length ∧ s.testBit v = true) : Sub (wide L s pre) t := by
  induction pre using snoc_ind with
  | h0 => exact hs
  | h1 l x ih =>
    rw [wide_snoc]
    have hx := hp x (by simp)
    exact sub_or (ih fun v hv => hp v (by simp [hv])) (hc x hx.1 (hs x hx.2))
theorem wide_lt {L : List Int} {s m : Nat} (hs : s < 2 ^ m) (pre : List Nat) (hp : ∀ v ∈ pre, ent L v < 2 ^ m) : wide L s pre < 2 ^ m := by
  induction pre using snoc_ind with
  | h0 => exact hs
  | h1 l x ih => rw [wide_snoc]; exact Nat.or_lt_two_pow (ih fun v hv => hp v (by simp [hv])) (hp x (by simp))
/-- The set that the program ends at is the model's. -/
theorem reached_eq {L : List Int} (hn : 1 ≤ L.length) (h6 : L.length ≤ 6) (hL : ∀ v, v < L.length → ent L v < 2 ^ L.length) {s : Nat} (h1 : Sub 1 s) (hin : ∀ t, Sub 1 t → Closed L t → Sub s t) (hend : wide L s (nodesL s) = s) : s = turns L L.length := by
  have hc : Closed L s := fun v hv hb => by
    have hm : v ∈ nodesL s := nodes_mem.2 ⟨by omega, by rw [Nat.testBit_eq_decide_div_mod_eq, decide_eq_true_eq] at hb; exact hb⟩
    have := wide_has L s (nodesL s) v hm
    rwa [hend] at this
  exact Sub.eq (hin _ (turns_has L L.length) (turns_closed hn hL)) (turns_in h1 hc L.length)
end Go.Proofs.YtamabhdbcmjbjaaDoor

/- What it is to be linked. -/


namespace Go.Proofs.YtamabhdbcmjbjaaDoor
open Go Go.RowKit
set_option linter.unusedVariables false

theorem bit_test2 (s y : Nat) : s.testBit y = true ↔ s / 2 ^ y % 2 = 1 := by rw [Nat.testBit_eq_decide_div_mod_eq, decide_eq_true_eq]
def IsLinked (L : List Int) : Prop := IsGraph L ∧ turns L L.length = 2 ^ L.length - 1
end Go.Proofs.YtamabhdbcmjbjaaDoor

/- Imports for regions that only read. -/


namespace Go.Proofs.YtamabhdbcmjbjaaDoor
end Go.Proofs.YtamabhdbcmjbjaaDoor
