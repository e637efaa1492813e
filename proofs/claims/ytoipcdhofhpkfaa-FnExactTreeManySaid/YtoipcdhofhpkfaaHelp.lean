/- The contracts of the helpers of the exact laws (two lists compared; a list marked; the marks asked), over slices that the call itself owns. No conditions but those that each theorem names. -/
import Derived.Test.YtoipcdhofhpkfaaRows
import Derived.WalkKit
import Derived.ProofKit
import Derived.OpenShut
import Derived.LoopTactic
import Derived.RegionTactic
import Derived.Deep.QuietTactic
import Derived.BigQuiet
import Derived.Outline
import Derived.Lib.Hide
import Derived.Below
import Derived.OwnWalk
import Derived.Laws.OwnMore
import Derived.Deep.Draws
import Derived.Maps.AppendAt
namespace Go.Proofs.Ytoipcdhofhpkfaa
open Go.RowKit
set_option linter.unusedVariables false


/-- A slice value that the call owns: block B or later, and it holds the numbers xs. -/
def Row (w : World) (B : Nat) (v : Value) (xs : List Int) : Prop := w.ownsRow B 3 1 v xs.length (xs.map (Value.int .i64))

theorem getD_map (xs : List Int) (k : Nat) (hk : k < xs.length) : (xs.map (Value.int .i64))[k]? = some (.int .i64 (xs[k]?.getD 0)) := by
  simp [hk]

theorem Row.drewN {w : World} {B : Nat} {v : Value} {xs : List Int} (h : Row w B v xs) (n : Nat) : Row (w.drewN n) B v xs := h
theorem Row.alloc {w : World} {B : Nat} {v : Value} {xs : List Int} (h : Row w B v xs) (o : Obj) : Row (w.alloc o) B v xs := World.ownsRow.alloc h o

theorem Row.see {w : World} {B : Nat} {v : Value} {xs : List Int} (h : Row w B v xs) :
    ∃ A c, v = .slice A xs.length c ∧ ∀ k, k < xs.length → ∃ g, A = some ⟨g, 0, none⟩ ∧ B ≤ g ∧ w.cell? ⟨g, k, none⟩ = some (.int .i64 (xs[k]?.getD 0)) ∧ w.frozen? ⟨g, k, none⟩ = false := by
  have h0 := h
  unfold Row at h0
  rcases h0.2 with ⟨rfl, hn⟩ | ⟨g, cap, cur, rfl, hg, _, _, _, _, _⟩
  · exact ⟨none, 0, by rw [hn], fun k hk => absurd hk (by omega)⟩
  · exact ⟨_, cap, rfl, fun k hk => ⟨g, rfl, hg, by rw [World.ownsRow.cellAt h0 k (by omega)]; exact getD_map xs k hk, World.ownsRow.frozenAt h0 k⟩⟩

theorem take_eq_succ {xs ys : List Int} {k : Nat} (hk : k < xs.length) (hl : xs.length = ys.length) (h : xs.take k = ys.take k) (he : xs[k]?.getD 0 = ys[k]?.getD 0) : xs.take (k + 1) = ys.take (k + 1) := by
  have hk' : k < ys.length := by omega
  rw [List.take_succ_eq_append_getElem hk, List.take_succ_eq_append_getElem hk', h]
  simp [hk, hk'] at he
  rw [he]
theorem ne_of_get {xs ys : List Int} {k : Nat} (h : ¬ xs[k]?.getD 0 = ys[k]?.getD 0) : xs ≠ ys := fun e => h (by rw [e])

/-- How eqIntS ends. -/
def SaidEq (w : World) (xs ys : List Int) (e : Ending) (w' : World) : Prop := e = .returned (.bool (decide (xs = ys))) ∧ ∃ n, w' = w.drewN n

theorem ret_bool {a b : Bool} (h : a = b) : Ending.returned (.bool a) = .returned (.bool b) := by rw [h]

/-! ### markIntS, heldIntS -/
/-- The marks k, k + 1, .. -/
def marks (k : Int) (n : Nat) : List Int := (List.range n).map fun (i : Nat) => k + (i : Int)
theorem marks_length (k : Int) (n : Nat) : (marks k n).length = n := by simp [marks]
theorem marks_get (k : Int) (n i : Nat) (h : i < n) : (marks k n)[i]?.getD 0 = k + i := by simp [marks, h]
/-- The first i places are marked, the others are as they were. -/
def partly (k : Int) (xs : List Int) (i : Nat) : List Int := marks k i ++ xs.drop i
theorem partly_zero (k : Int) (xs : List Int) : partly k xs 0 = xs := by simp [partly, marks]
theorem partly_all (k : Int) (xs : List Int) : partly k xs xs.length = marks k xs.length := by simp [partly]
theorem partly_length (k : Int) (xs : List Int) (i : Nat) (h : i ≤ xs.length) : (partly k xs i).length = xs.length := by simp [partly, marks]; omega
theorem partly_succ (k : Int) (xs : List Int) (i : Nat) (h : i < xs.length) : (partly k xs i).set i (k + i) = partly k xs (i + 1) := by
  unfold partly
  have e : i = (marks k i).length := by rw [marks_length]
  rw [List.set_append_right _ _ (by rw [marks_length]; omega), marks_length, Nat.sub_self, List.drop_eq_getElem_cons h, List.set_cons_zero]
  simp [marks, List.range_succ]

theorem Row.set {w : World} {B g cap : Nat} {n : Nat} {xs : List Int} (h : Row w B (.slice (some ⟨g, 0, none⟩) n cap) xs) (j : Nat) (hj : j < xs.length) (x : Int) :
    Row (w.setCell ⟨g, j, none⟩ (.int .i64 x)) B (.slice (some ⟨g, 0, none⟩) n cap) (xs.set j x) := by
  obtain ⟨h1, h2⟩ := h
  have hn : n = xs.length := by
    rcases h2 with ⟨hv, _⟩ | ⟨g', cap', cur, hv, _⟩
    · cases hv
    · cases hv; rfl
  subst hn
  have := World.ownsRow.stored (w := w) (base := B) (e := 3) (size := 1) (n := xs.length) ⟨h1, h2⟩ j (.int .i64 x)
  unfold Row
  rw [List.length_set, List.map_set]
  exact this.1

def SaidMark (w : World) (B g : Nat) (v : Value) (k : Int) (n : Nat) (e : Ending) (w' : World) : Prop :=
  e = .returned (.int .i64 (k + n)) ∧ Row w' B v (marks k n) ∧ w.grownBy w' (some g)

theorem ret_int {a b : Int} (h : a = b) : Ending.returned (.int .i64 a) = .returned (.int .i64 b) := by rw [h]

/-! ### What a function of one list and one bool tells -/
theorem Row.below {w w' : World} {B : Nat} {v : Value} {xs : List Int} (h : Row w B v xs) (hb : Below w.heap.size w w') : Row w' B v xs :=
  World.ownsRow.kept (row := none) h ⟨hb.os, hb.tape, hb.output, hb.size, fun k hk _ => hb.block k hk⟩ (by cases hv : v.ownBlock <;> simp)
theorem Row.lt {w : World} {B : Nat} {v : Value} {xs : List Int} (h : Row w B v xs) : ∀ k, v.ownBlock = some k → B ≤ k ∧ k < w.heap.size := World.ownsRow.lt h
/-- A row of elder blocks stays while a row of younger ones is written. -/
theorem Row.apart {w1 w2 : World} {B B' : Nat} {v v' : Value} {xs : List Int} (h : Row w1 B v xs) (hv : ∀ k, v.ownBlock = some k → k < B') (hv' : ∀ k, v'.ownBlock = some k → B' ≤ k) (hg : w1.grownBy w2 v'.ownBlock) : Row w2 B v xs := by
  refine World.ownsRow.kept h hg ?_
  cases hv0 : v.ownBlock with
  | none => exact .inl rfl
  | some a =>
    refine .inr fun e => ?_
    have h1 := hv a hv0
    have h2 := hv' a e.symm
    omega
theorem below_drewN {B : Nat} {a w : World} (h : Below B a w) (n : Nat) : Below B a (w.drewN n) := h.trans ⟨rfl, rfl, rfl, Nat.le_refl _, fun _ _ => rfl⟩

def Told (w : World) (L : List Int) (ok : Bool) (e : Ending) (w' : World) : Prop :=
  ∃ v, e = .returned (.tuple #[v, .bool ok]) ∧ Row w' w.heap.size v L ∧ Below w.heap.size w w'
def Fine (w : World) (e : Ending) (w' : World) : Prop := e = .returned (.bool true) ∧ Below w.heap.size w w'

def Yes (w : World) (e : Ending) (w' : World) : Prop := e = .returned (.bool true) ∧ ∃ n, w' = w.drewN n
theorem Row.cellAt {w : World} {B g n cap : Nat} {xs : List Int} (h : Row w B (.slice (some ⟨g, 0, none⟩) n cap) xs) (k : Nat) (hk : k < xs.length) : w.cell? ⟨g, k, none⟩ = some (.int .i64 (xs[k]?.getD 0)) := by
  obtain ⟨A, c, hv, hA⟩ := h.see
  obtain ⟨g', hg', _, hc, _⟩ := hA k hk
  rw [hg'] at hv
  cases hv
  exact hc
theorem Row.frozenAt {w : World} {B g n cap : Nat} {xs : List Int} (h : Row w B (.slice (some ⟨g, 0, none⟩) n cap) xs) (k : Nat) (hk : k < xs.length) : w.frozen? ⟨g, k, none⟩ = false := by
  obtain ⟨A, c, hv, hA⟩ := h.see
  obtain ⟨g', hg', _, _, hf⟩ := hA k hk
  rw [hg'] at hv
  cases hv
  exact hf

theorem Row.mono {w : World} {B B' : Nat} {v : Value} {xs : List Int} (h : Row w B v xs) (hB : B' ≤ B) : Row w B' v xs := by
  obtain ⟨h1, h2⟩ := h
  refine ⟨h1, ?_⟩
  rcases h2 with h2 | ⟨g, cap, cur, hv, hg, r⟩
  · exact .inl h2
  · exact .inr ⟨g, cap, cur, hv, Nat.le_trans hB hg, r⟩
end Go.Proofs.Ytoipcdhofhpkfaa
