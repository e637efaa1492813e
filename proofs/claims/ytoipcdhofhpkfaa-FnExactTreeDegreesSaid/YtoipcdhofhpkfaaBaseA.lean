/- Texts in one: Help, HelpL, Math, Make, In, InL. -/
import Derived.Test.YtoipcdhofhpkfaaRows
import Derived.WalkKit
import Derived.ProofKit
import Derived.OpenShut
import Derived.LoopTactic
import Derived.RegionTactic
import Derived.Deep.QuietTactic
import Derived.BigQuiet
import Derived.Outline
import Derived.Lib.Hide
import Derived.Below
import Derived.OwnWalk
import Derived.Laws.OwnMore
import Derived.Deep.Draws
import Derived.Maps.AppendAt
import Derived.Laws.BitsAllLaws
import Derived.Laws.BitsLemmas
import Derived.Laws.Wrap64
import Derived.IntWalk
import Derived.StillTailTactics

/- The contracts of the helpers of the exact laws (two lists compared; a list marked; the marks asked), over slices that the call itself owns. No conditions but those that each theorem names. -/















namespace Go.Proofs.Ytoipcdhofhpkfaa
open Go.RowKit
set_option linter.unusedVariables false


/-- A slice value that the call owns: block B or later, and it holds the numbers xs. -/
def Row (w : World) (B : Nat) (v : Value) (xs : List Int) : Prop := w.ownsRow B 3 1 v xs.length (xs.map (Value.int .i64))

theorem getD_map (xs : List Int) (k : Nat) (hk : k < xs.length) : (xs.map (Value.int .i64))[k]? = some (.int .i64 (xs[k]?.getD 0)) := by
  simp [hk]

theorem Row.drewN {w : World} {B : Nat} {v : Value} {xs : List Int} (h : Row w B v xs) (n : Nat) : Row (w.drewN n) B v xs := h
theorem Row.alloc {w : World} {B : Nat} {v : Value} {xs : List Int} (h : Row w B v xs) (o : Obj) : Row (w.alloc o) B v xs := World.ownsRow.alloc h o

theorem Row.see {w : World} {B : Nat} {v : Value} {xs : List Int} (h : Row w B v xs) :
    ∃ A c, v = .slice A xs.length c ∧ ∀ k, k < xs.length → ∃ g, A = some ⟨g, 0, none⟩ ∧ B ≤ g ∧ w.cell? ⟨g, k, none⟩ = some (.int .i64 (xs[k]?.getD 0)) ∧ w.frozen? ⟨g, k, none⟩ = false := by
  have h0 := h
  unfold Row at h0
  rcases h0.2 with ⟨rfl, hn⟩ | ⟨g, cap, cur, rfl, hg, _, _, _, _, _⟩
  · exact ⟨none, 0, by rw [hn], fun k hk => absurd hk (by omega)⟩
  · exact ⟨_, cap, rfl, fun k hk => ⟨g, rfl, hg, by rw [World.ownsRow.cellAt h0 k (by omega)]; exact getD_map xs k hk, World.ownsRow.frozenAt h0 k⟩⟩

theorem take_eq_succ {xs ys : List Int} {k : Nat} (hk : k < xs.length) (hl : xs.length = ys.length) (h : xs.take k = ys.take k) (he : xs[k]?.getD 0 = ys[k]?.getD 0) : xs.take (k + 1) = ys.take (k + 1) := by
  have hk' : k < ys.length := by omega
  rw [List.take_succ_eq_append_getElem hk, List.take_succ_eq_append_getElem hk', h]
  simp [hk, hk'] at he
  rw [he]
theorem ne_of_get {xs ys : List Int} {k : Nat} (h : ¬ xs[k]?.getD 0 = ys[k]?.getD 0) : xs ≠ ys := fun e => h (by rw [e])

/-- How eqIntS ends. -/
def SaidEq (w : World) (xs ys : List Int) (e : Ending) (w' : World) : Prop := e = .returned (.bool (decide (xs = ys))) ∧ ∃ n, w' = w.drewN n

theorem ret_bool {a b : Bool} (h : a = b) : Ending.returned (.bool a) = .returned (.bool b) := by rw [h]

/-! ### markIntS, heldIntS -/
/-- The marks k, k + 1, .. -/
def marks (k : Int) (n : Nat) : List Int := (List.range n).map fun (i : Nat) => k + (i : Int)
theorem marks_length (k : Int) (n : Nat) : (marks k n).length = n := by simp [marks]
theorem marks_get (k : Int) (n i : Nat) (h : i < n) : (marks k n)[i]?.getD 0 = k + i := by simp [marks, h]
/-- The first i places are marked, the others are as they were. -/
def partly (k : Int) (xs : List Int) (i : Nat) : List Int := marks k i ++ xs.drop i
theorem partly_zero (k : Int) (xs : List Int) : partly k xs 0 = xs := by simp [partly, marks]
theorem partly_all (k : Int) (xs : List Int) : partly k xs xs.length = marks k xs.length := by simp [partly]
theorem partly_length (k : Int) (xs : List Int) (i : Nat) (h : i ≤ xs.length) : (partly k xs i).length = xs.length := by simp [partly, marks]; omega
theorem partly_succ (k : Int) (xs : List Int) (i : Nat) (h : i < xs.length) : (partly k xs i).set i (k + i) = partly k xs (i + 1) := by
  unfold partly
  have e : i = (marks k i).length := by rw [marks_length]
  rw [List.set_append_right _ _ (by rw [marks_length]; omega), marks_length, Nat.sub_self, List.drop_eq_getElem_cons h, List.set_cons_zero]
  simp [marks, List.range_succ]

theorem Row.set {w : World} {B g cap : Nat} {n : Nat} {xs : List Int} (h : Row w B (.slice (some ⟨g, 0, none⟩) n cap) xs) (j : Nat) (hj : j < xs.length) (x : Int) :
    Row (w.setCell ⟨g, j, none⟩ (.int .i64 x)) B (.slice (some ⟨g, 0, none⟩) n cap) (xs.set j x) := by
  obtain ⟨h1, h2⟩ := h
  have hn : n = xs.length := by
    rcases h2 with ⟨hv, _⟩ | ⟨g', cap', cur, hv, _⟩
    · cases hv
    · cases hv; rfl
  subst hn
  have := World.ownsRow.stored (w := w) (base := B) (e := 3) (size := 1) (n := xs.length) ⟨h1, h2⟩ j (.int .i64 x)
  unfold Row
  rw [List.length_set, List.map_set]
  exact this.1

def SaidMark (w : World) (B g : Nat) (v : Value) (k : Int) (n : Nat) (e : Ending) (w' : World) : Prop :=
  e = .returned (.int .i64 (k + n)) ∧ Row w' B v (marks k n) ∧ w.grownBy w' (some g)

theorem ret_int {a b : Int} (h : a = b) : Ending.returned (.int .i64 a) = .returned (.int .i64 b) := by rw [h]

/-! ### What a function of one list and one bool tells -/
theorem Row.below {w w' : World} {B : Nat} {v : Value} {xs : List Int} (h : Row w B v xs) (hb : Below w.heap.size w w') : Row w' B v xs :=
  World.ownsRow.kept (row := none) h ⟨hb.os, hb.tape, hb.output, hb.size, fun k hk _ => hb.block k hk⟩ (by cases hv : v.ownBlock <;> simp)
theorem Row.lt {w : World} {B : Nat} {v : Value} {xs : List Int} (h : Row w B v xs) : ∀ k, v.ownBlock = some k → B ≤ k ∧ k < w.heap.size := World.ownsRow.lt h
/-- A row of elder blocks stays while a row of younger ones is written. -/
theorem Row.apart {w1 w2 : World} {B B' : Nat} {v v' : Value} {xs : List Int} (h : Row w1 B v xs) (hv : ∀ k, v.ownBlock = some k → k < B') (hv' : ∀ k, v'.ownBlock = some k → B' ≤ k) (hg : w1.grownBy w2 v'.ownBlock) : Row w2 B v xs := by
  refine World.ownsRow.kept h hg ?_
  cases hv0 : v.ownBlock with
  | none => exact .inl rfl
  | some a =>
    refine .inr fun e => ?_
    have h1 := hv a hv0
    have h2 := hv' a e.symm
    omega
theorem below_drewN {B : Nat} {a w : World} (h : Below B a w) (n : Nat) : Below B a (w.drewN n) := h.trans ⟨rfl, rfl, rfl, Nat.le_refl _, fun _ _ => rfl⟩

def Told (w : World) (L : List Int) (ok : Bool) (e : Ending) (w' : World) : Prop :=
  ∃ v, e = .returned (.tuple #[v, .bool ok]) ∧ Row w' w.heap.size v L ∧ Below w.heap.size w w'
def Fine (w : World) (e : Ending) (w' : World) : Prop := e = .returned (.bool true) ∧ Below w.heap.size w w'

def Yes (w : World) (e : Ending) (w' : World) : Prop := e = .returned (.bool true) ∧ ∃ n, w' = w.drewN n
theorem Row.cellAt {w : World} {B g n cap : Nat} {xs : List Int} (h : Row w B (.slice (some ⟨g, 0, none⟩) n cap) xs) (k : Nat) (hk : k < xs.length) : w.cell? ⟨g, k, none⟩ = some (.int .i64 (xs[k]?.getD 0)) := by
  obtain ⟨A, c, hv, hA⟩ := h.see
  obtain ⟨g', hg', _, hc, _⟩ := hA k hk
  rw [hg'] at hv
  cases hv
  exact hc
theorem Row.frozenAt {w : World} {B g n cap : Nat} {xs : List Int} (h : Row w B (.slice (some ⟨g, 0, none⟩) n cap) xs) (k : Nat) (hk : k < xs.length) : w.frozen? ⟨g, k, none⟩ = false := by
  obtain ⟨A, c, hv, hA⟩ := h.see
  obtain ⟨g', hg', _, _, hf⟩ := hA k hk
  rw [hg'] at hv
  cases hv
  exact hf

theorem Row.mono {w : World} {B B' : Nat} {v : Value} {xs : List Int} (h : Row w B v xs) (hB : B' ≤ B) : Row w B' v xs := by
  obtain ⟨h1, h2⟩ := h
  refine ⟨h1, ?_⟩
  rcases h2 with h2 | ⟨g, cap, cur, hv, hg, r⟩
  · exact .inl h2
  · exact .inr ⟨g, cap, cur, hv, Nat.le_trans hB hg, r⟩
end Go.Proofs.Ytoipcdhofhpkfaa

/- The contracts of the helpers of the exact laws (two lists compared; a list marked; the marks asked), over slices that the call itself owns. No conditions but those that each theorem names. -/
















namespace Go.Proofs.Ytoipcdhofhpkfaa
open Go.RowKit
set_option linter.unusedVariables false


theorem eq_same (n : Nat) (A A' : Option Addr) (c c' : Nat) (xs ys : List Int) (w : World) (hx : xs.length = n) (hy : ys.length = n) (hs : n ≤ 1048576)
    (hA : ∀ k, k < n → ∃ g, A = some ⟨g, 0, none⟩ ∧ w.cell? ⟨g, k, none⟩ = some (.int .i64 (xs[k]?.getD 0)))
    (hA' : ∀ k, k < n → ∃ g, A' = some ⟨g, 0, none⟩ ∧ w.cell? ⟨g, k, none⟩ = some (.int .i64 (ys[k]?.getD 0))) :
    Calls Try.prog 10 #[.slice A n c, .slice A' n c'] w (SaidEq w xs ys) := by
  have HA := Lib.hid hA
  have HA' := Lib.hid hA'
  have HX := Lib.hid hx
  have HY := Lib.hid hy
  clear hA hA' hx hy
  go_enter Try.func10, Try.ntmps10
  go_wp2
  go_loopw [5] (fun i wr => ∃ k m : Nat, k ≤ n ∧ i = .int .i64 k ∧ Hid (xs.take k = ys.take k) ∧ wr = w.drewN m) (fun i _ => n - (intOf i).toNat)
  case atStart => exact ⟨0, 0, Nat.zero_le _, rfl, Lib.hid (by simp), rfl⟩
  case round =>
    obtain ⟨k, m, hk, rfl, ht, rfl⟩ := hrel
    by_cases hlt : k < n
    · obtain ⟨g, rfl, hc⟩ := HA.out k hlt
      obtain ⟨g', rfl, hc'⟩ := HA'.out k hlt
      have hi1 : (0 : Int) ≤ (k : Int) := by omega
      have hi2 : (k : Int) < (n : Int) := by omega
      by_cases he : xs[k]?.getD 0 = ys[k]?.getD 0
      · have hb : (xs[k]?.getD 0 != ys[k]?.getD 0) = false := by simp [he]
        have HE := Lib.hid he
        clear he
        go_wp2
        go_quiet (fail)
        go_wp2
        go_roundw
        case rel => exact ⟨k + 1, _, by omega, by go_num, Lib.hid (take_eq_succ (by have := HX.out; omega) (by rw [HX.out, HY.out]) ht.out HE.out), rfl⟩
        case measure => simp [intOf]; omega
      · have hb : (xs[k]?.getD 0 != ys[k]?.getD 0) = true := by simp [he]
        have HE := Lib.hid he
        clear he
        go_wp2
        go_quiet (fail)
        go_wp2
        go_ret
        exact ⟨ret_bool (by simp; exact ne_of_get HE.out), _, World.drewN_drewN _ _ _⟩
    · go_wp2
      go_ret
      have hkn : k = n := by omega
      subst hkn
      exact ⟨ret_bool (by have h1 := ht.out; rw [List.take_of_length_le (by rw [HX.out]; omega), List.take_of_length_le (by rw [HY.out]; omega)] at h1; simp [h1]), _, rfl⟩

theorem eq_other (n n' : Nat) (A A' : Option Addr) (c c' : Nat) (w : World) (hne : n ≠ n') :
    Calls Try.prog 10 #[.slice A n c, .slice A' n' c'] w fun e w' => e = .returned (.bool false) ∧ w = w' := by
  have hb : ((n : Int) != (n' : Int)) = true := by simp; omega
  go_enter Try.func10, Try.ntmps10
  go_wp2
  go_ret
  exact ⟨rfl, rfl⟩

/-- **eqIntS tells whether two lists are one.** -/
theorem eq_any (B B' : Nat) (v1 v2 : Value) (xs ys : List Int) (w : World) (h1 : Row w B v1 xs) (h2 : Row w B' v2 ys) (hs : xs.length ≤ 1048576) :
    Calls Try.prog 10 #[v1, v2] w (SaidEq w xs ys) := by
  obtain ⟨A, c, rfl, hA⟩ := h1.see
  obtain ⟨A', c', rfl, hA'⟩ := h2.see
  by_cases hl : ys.length = xs.length
  · rw [hl] at hA' ⊢
    exact eq_same xs.length A A' c c' xs ys w rfl hl hs (fun k hk => by obtain ⟨g, a, _, b, _⟩ := hA k hk; exact ⟨g, a, b⟩) (fun k hk => by obtain ⟨g, a, _, b, _⟩ := hA' k hk; exact ⟨g, a, b⟩)
  · refine (eq_other xs.length ys.length A A' c c' w (by omega)).mono fun e w' ⟨he, hw⟩ => ⟨?_, 0, hw.symm⟩
    rw [he]
    exact ret_bool (by symm; simp; intro h; exact hl (by rw [h]))

theorem eq_yes (B B' : Nat) (v1 v2 : Value) (xs : List Int) (w : World) (h1 : Row w B v1 xs) (h2 : Row w B' v2 xs) (hs : xs.length ≤ 1048576) :
    Calls Try.prog 10 #[v1, v2] w (Yes w) :=
  (eq_any B B' v1 v2 xs xs w h1 h2 hs).mono fun e w' ⟨he, hw⟩ => ⟨by rw [he]; exact ret_bool (by simp), hw⟩
end Go.Proofs.Ytoipcdhofhpkfaa

/- Plain mathematics of graphs as lists of sets: pairs in order, edges put by a code. No condition. -/





namespace Go.Proofs.Ytoipcdhofhpkfaa
open Go Go.RowKit

/-- Numbers as the cells hold them. -/
def ints (L : List Nat) : List Int := L.map fun (x : Nat) => (x : Int)
theorem ints_length (L : List Nat) : (ints L).length = L.length := by simp [ints]
theorem ints_set (L : List Nat) (i x : Nat) : (ints L).set i (x : Int) = ints (L.set i x) := by simp [ints, List.map_set]
theorem ints_get (L : List Nat) (i : Nat) : (ints L)[i]?.getD 0 = ((L[i]?.getD 0 : Nat) : Int) := by
  unfold ints
  rw [List.getElem?_map]
  cases L[i]? <;> simp
theorem ints_inj {L M : List Nat} (h : ints L = ints M) : L = M := by
  induction L generalizing M with
  | nil => cases M <;> simp_all [ints]
  | cons a L ih =>
    cases M with
    | nil => simp [ints] at h
    | cons b M =>
      simp only [ints, List.map_cons, List.cons.injEq] at h
      rw [ih h.2, Int.ofNat_inj.1 h.1]

/-! ### bits of small numbers -/
/-- A number below 2^63 as a word of 64 bits is itself. -/
theorem word (a : Nat) (h : a < 2 ^ 63) : (BitVec.ofInt 64 (a : Int)).toNat = a := by
  simp only [BitVec.ofInt_natCast, BitVec.toNat_ofNat]
  omega
/-- A word whose number is below 2^63 reads as that number. -/
theorem unword (v : BitVec 64) (m : Nat) (hv : v.toNat = m) (h : m < 2 ^ 63) : IntKind.i64.wrap (v.toNat : Int) = (m : Int) := by
  rw [IntKind.wrap_i64, hv]
  omega
theorem i64_and_nat (a b : Nat) (ha : a < 9223372036854775808) (hb : b < 9223372036854775808) : bits .and .i64 (a : Int) (b : Int) = ((a &&& b : Nat) : Int) :=
  unword (BitVec.ofInt 64 (a : Int) &&& BitVec.ofInt 64 (b : Int)) _ (by rw [BitVec.toNat_and, word a ha, word b hb]) (Nat.and_lt_two_pow a hb)
theorem i64_or_nat (a b : Nat) (ha : a < 9223372036854775808) (hb : b < 9223372036854775808) : bits .or .i64 (a : Int) (b : Int) = ((a ||| b : Nat) : Int) :=
  unword (BitVec.ofInt 64 (a : Int) ||| BitVec.ofInt 64 (b : Int)) _ (by rw [BitVec.toNat_or, word a ha, word b hb]) (Nat.or_lt_two_pow ha hb)
theorem i64_andNot_nat (a b : Nat) (ha : a < 9223372036854775808) (hb : b < 9223372036854775808) : bits .andNot .i64 (a : Int) (b : Int) = ((a &&& (18446744073709551615 - b) : Nat) : Int) :=
  unword (BitVec.ofInt 64 (a : Int) &&& ~~~BitVec.ofInt 64 (b : Int)) _ (by rw [BitVec.toNat_and, BitVec.toNat_not, word a ha, word b hb]) (Nat.lt_of_le_of_lt Nat.and_le_left ha)
theorem pow_le (k m : Nat) (h : k ≤ m) : 2 ^ k ≤ 2 ^ m := Nat.pow_le_pow_right (by omega) h
theorem wrap_pow (k : Nat) (h : k ≤ 40) : wrap64 ((2 : Int) ^ k) = ((2 ^ k : Nat) : Int) := by
  have h1 := pow_le k 40 h
  have e : ((2 : Int) ^ k) = ((2 ^ k : Nat) : Int) := by simp
  rw [e]
  obtain ⟨p, hp⟩ : ∃ p : Nat, p = 2 ^ k := ⟨_, rfl⟩
  rw [← hp] at h1 ⊢
  unfold wrap64
  omega
theorem or_pow (x k : Nat) (h : k ≤ 40) (hx : x < 9223372036854775808) : bits .or .i64 (x : Int) (wrap64 ((2 : Int) ^ k)) = ((x ||| 2 ^ k : Nat) : Int) := by
  have h1 := pow_le k 40 h
  rw [wrap_pow k h, i64_or_nat x _ hx (by omega)]

/-! ### pairs, edges -/
/-- A pair is made an edge, if bit is 1. -/
def lnk (g : List Nat) (a b bit : Nat) : List Nat := (g.set a (g[a]?.getD 0 ||| bit * 2 ^ b)).set b ((g.set a (g[a]?.getD 0 ||| bit * 2 ^ b))[b]?.getD 0 ||| bit * 2 ^ a)
theorem lnk_length (g : List Nat) (a b bit : Nat) : (lnk g a b bit).length = g.length := by simp [lnk]
theorem set_same (g : List Nat) (a : Nat) : g.set a (g[a]?.getD 0) = g := by
  apply List.ext_getElem?
  intro i
  rw [List.getElem?_set]
  split
  · rename_i e
    subst e
    by_cases h : a < g.length
    · simp [h]
    · simp [h]
  · rfl
theorem lnk_zero (g : List Nat) (a b : Nat) : lnk g a b 0 = g := by
  unfold lnk
  simp only [Nat.zero_mul, Nat.or_zero]
  rw [set_same, set_same]

theorem set_lt {g : List Nat} {m : Nat} (h : ∀ x ∈ g, x < m) (i y : Nat) (hy : y < m) : ∀ x ∈ g.set i y, x < m := by
  intro x hx
  rcases List.mem_or_eq_of_mem_set hx with h1 | h1
  · exact h x h1
  · omega
theorem get_lt {g : List Nat} {m : Nat} (h : ∀ x ∈ g, x < m) (i : Nat) (hm : 0 < m) : g[i]?.getD 0 < m := by
  by_cases hi : i < g.length
  · rw [List.getElem?_eq_getElem hi]; exact h _ (List.getElem_mem _)
  · rw [List.getElem?_eq_none (by omega)]; exact hm
theorem bit_pow {bit k : Nat} (hb : bit ≤ 1) (hk : k < 6) : bit * 2 ^ k < 2 ^ 6 := by
  have h1 : 2 ^ k ≤ 2 ^ 5 := pow_le k 5 (by omega)
  have h2 : bit * 2 ^ k ≤ 1 * 2 ^ k := Nat.mul_le_mul_right _ hb
  omega
theorem lnk_lt {g : List Nat} (h : ∀ x ∈ g, x < 2 ^ 6) (a b bit : Nat) (ha : a < 6) (hb : b < 6) (hbit : bit ≤ 1) : ∀ x ∈ lnk g a b bit, x < 2 ^ 6 := by
  have h1 := set_lt h a (g[a]?.getD 0 ||| bit * 2 ^ b) (Nat.or_lt_two_pow (get_lt h a (by omega)) (bit_pow hbit hb))
  exact set_lt h1 b _ (Nat.or_lt_two_pow (get_lt h1 b (by omega)) (bit_pow hbit ha))

/-- A graph and the number of pairs that are done, one pair more. -/
def stp (code : Nat) (st : List Nat × Nat) (p : Nat × Nat) : List Nat × Nat := (lnk st.1 p.1 p.2 (code / 2 ^ st.2 % 2), st.2 + 1)
def run (code n : Nat) (ps : List (Nat × Nat)) : List Nat × Nat := ps.foldl (stp code) (List.replicate n 0, 0)
theorem run_nil (code n : Nat) : run code n [] = (List.replicate n 0, 0) := rfl
theorem run_snoc (code n : Nat) (ps : List (Nat × Nat)) (p : Nat × Nat) : run code n (ps ++ [p]) = stp code (run code n ps) p := by simp [run]
theorem snoc_ind {α : Type} {P : List α → Prop} (h0 : P []) (h1 : ∀ l x, P l → P (l ++ [x])) (l : List α) : P l := by
  have h : ∀ m : List α, P m.reverse := by
    intro m
    induction m with
    | nil => exact h0
    | cons x m ih => rw [List.reverse_cons]; exact h1 _ _ ih
  have := h l.reverse
  rwa [List.reverse_reverse] at this
theorem run_at (code n : Nat) (ps : List (Nat × Nat)) : (run code n ps).2 = ps.length := by
  induction ps using snoc_ind with
  | h0 => rfl
  | h1 l x ih => rw [run_snoc, List.length_append]; show (run code n l).2 + 1 = _; rw [ih]; rfl
theorem run_length (code n : Nat) (ps : List (Nat × Nat)) : (run code n ps).1.length = n := by
  induction ps using snoc_ind with
  | h0 => simp [run_nil]
  | h1 l x ih => rw [run_snoc]; show (lnk _ _ _ _).length = _; rw [lnk_length, ih]
theorem run_lt (code n : Nat) (ps : List (Nat × Nat)) (h : ∀ p ∈ ps, p.1 < 6 ∧ p.2 < 6) : ∀ x ∈ (run code n ps).1, x < 2 ^ 6 := by
  induction ps using snoc_ind with
  | h0 => intro x hx; simp [run_nil] at hx; omega
  | h1 l y ih =>
    rw [run_snoc]
    obtain ⟨h1, h2⟩ := h y (by simp)
    exact lnk_lt (ih fun p hp => h p (by simp [hp])) _ _ _ h1 h2 (by omega)

/-- The pairs with a greater node below b, and those of b with a lesser node below a. -/
def rows (b : Nat) : List (Nat × Nat) := (List.range b).flatMap fun y => (List.range y).map fun x => (x, y)
def upto (b a : Nat) : List (Nat × Nat) := rows b ++ (List.range a).map fun x => (x, b)
theorem upto_zero (b : Nat) : upto b 0 = rows b := by simp [upto]
theorem upto_succ (b a : Nat) : upto b (a + 1) = upto b a ++ [(a, b)] := by simp [upto, List.range_succ]
theorem upto_end (b : Nat) : upto b b = rows (b + 1) := by simp [upto, rows, List.range_succ]
theorem rows_one : rows 1 = [] := rfl
theorem rows_mem (b : Nat) : ∀ p ∈ rows b, p.1 < p.2 ∧ p.2 < b := by
  intro p hp
  simp only [rows, List.mem_flatMap, List.mem_range, List.mem_map] at hp
  obtain ⟨y, hy, x, hx, rfl⟩ := hp
  exact ⟨hx, hy⟩
theorem upto_mem (b a : Nat) (h : a ≤ b) : ∀ p ∈ upto b a, p.1 < p.2 ∧ p.2 ≤ b := by
  intro p hp
  simp only [upto, List.mem_append, List.mem_map, List.mem_range] at hp
  rcases hp with hp | ⟨x, hx, rfl⟩
  · have := rows_mem b p hp; omega
  · exact ⟨by show x < b; omega, Nat.le_refl _⟩
theorem rows_length (b : Nat) (hb : b ≤ 6) : (rows b).length ≤ 15 := by
  have : ∀ b ≤ 6, (rows b).length ≤ 15 := by decide
  exact this b hb
theorem upto_length (b a : Nat) (hb : b ≤ 5) (ha : a ≤ b) : (upto b a).length ≤ 15 := by
  have : ∀ b ≤ 5, ∀ a ≤ b, (upto b a).length ≤ 15 := by decide
  exact this b hb a ha

theorem rows_pre (b m : Nat) (h : b ≤ m) : rows b <+: rows m := by
  induction m with
  | zero => have : b = 0 := by omega
            subst this; exact List.prefix_refl _
  | succ m ih =>
    by_cases e : b = m + 1
    · subst e; exact List.prefix_refl _
    · have h1 := ih (by omega)
      rw [← upto_end m]
      exact h1.trans (List.prefix_append _ _)
theorem upto_pre (b a m : Nat) (ha : a ≤ b) (h : b < m) : upto b a <+: rows m := by
  refine List.IsPrefix.trans ?_ (rows_pre (b + 1) m (by omega))
  rw [← upto_end]
  have e : (List.range b).map (fun x => (x, b)) = (List.range a).map (fun x => (x, b)) ++ ((List.range b).drop a).map fun x => (x, b) := by
    rw [← List.map_append]
    congr 1
    have h1 : List.range a = (List.range b).take a := by rw [List.take_range]; congr 1; omega
    rw [h1, List.take_append_drop]
  exact ⟨((List.range b).drop a).map fun x => (x, b), by unfold upto; rw [List.append_assoc, ← e]⟩

/-- The graph of n nodes with a code. -/
def ofCode (n code : Nat) : List Nat := (run code n (rows n)).1
theorem ofCode_length (n code : Nat) : (ofCode n code).length = n := run_length _ _ _

/-- What the loops' operations yield for one pair. -/
theorem bit_of (c k : Nat) (hc : c < 1048576) : bits .and .i64 ((c : Int) / 2 ^ k) 1 = ((c / 2 ^ k % 2 : Nat) : Int) := by
  have e : ((c : Int) / 2 ^ k) = ((c / 2 ^ k : Nat) : Int) := by simp
  have h1 : c / 2 ^ k ≤ c := Nat.div_le_self _ _
  rw [e]
  have := i64_and_nat (c / 2 ^ k) 1 (by omega) (by omega)
  rw [show ((1 : Nat) : Int) = 1 from rfl] at this
  rw [this, Nat.and_one_is_mod]
theorem wrap_bit (bit b p : Nat) (hb : bit ≤ 1) (hk : b < 6) (hp : p = bit * 2 ^ b) : wrap64 ((bit : Int) * 2 ^ b) = (p : Int) := by
  have h1 := bit_pow hb hk
  rw [← hp] at h1
  have e : (bit : Int) * 2 ^ b = (p : Int) := by rw [hp]; simp
  rw [e]
  unfold wrap64
  omega
end Go.Proofs.Ytoipcdhofhpkfaa

/- How calls end; make of a list of noughts. -/


namespace Go.Proofs.Ytoipcdhofhpkfaa
open Go.RowKit
set_option linter.unusedVariables false

/-- How a call that writes one row of its caller's, and hands back nothing, ends. -/
def Wrote (w : World) (B g : Nat) (v : Value) (L : List Nat) (e : Ending) (w' : World) : Prop := (∃ u, e = .returned u) ∧ Row w' B v (ints L) ∧ w.grownBy w' (some g)

theorem grown_set {a w : World} {g : Nat} (h : a.grownBy w (some g)) (i : Nat) (u : Value) : a.grownBy (w.setCell ⟨g, i, none⟩ u) (some g) :=
  World.grownBy.trans h ⟨rfl, rfl, rfl, by simp, fun k _ hk => Below.heap_setCell _ _ _ _ (fun e => hk (by simp [e]))⟩
theorem grown_drew {a w : World} {row : Option Nat} (h : a.grownBy w row) : a.grownBy w.drew row := World.grownBy.trans h ⟨rfl, rfl, rfl, Nat.le_refl _, fun _ _ _ => rfl⟩
theorem grown_drewN {a w : World} {row : Option Nat} (h : a.grownBy w row) (n : Nat) : a.grownBy (w.drewN n) row := World.grownBy.trans h ⟨rfl, rfl, rfl, Nat.le_refl _, fun _ _ _ => rfl⟩

/-! ### make -/
def madeW (w : World) (n : Nat) : World := w.alloc (.cells (madeCells #[.int .i64 0] (n * 1)) 3)
theorem madeW_row (w : World) (n : Nat) (hn : n ≤ 1048576) : Row (madeW w n) w.heap.size (.slice (some ⟨w.heap.size, 0, none⟩) n n) (ints (List.replicate n 0)) := by
  have h := World.ownsRow_lit (base := w.heap.size) (e := 3) (size := 1) w (madeCells #[.int .i64 0] (n * 1)) n (Nat.le_refl _) (by unfold maxLen; omega) (size_madeCells _ _)
  unfold Row madeW
  have e : (madeCells #[Value.int .i64 0] (n * 1)).toList = (ints (List.replicate n 0)).map (Value.int .i64) := by
    rw [Nat.mul_one, toList_madeCells_one]
    simp [ints]
  rw [e] at h
  rw [ints_length, List.length_replicate]
  exact h
theorem madeW_below (w : World) (n : Nat) : Below w.heap.size w (madeW w n) := (Below.refl _ _).alloc (Nat.le_refl _) _
theorem madeW_size (w : World) (n : Nat) : (madeW w n).heap.size = w.heap.size + 1 := by simp [madeW]

theorem infoInt : (Try.prog.info? 3).map (fun i => (i.zero, i.size, i.bytes)) = some (some (.int .i64 0), 1, 8) := by kernel_rfl
theorem run_make_of (t : TypeId) (ht : Try.prog.underlying t = some (.slice 3)) (n : Nat) (hn : n ≤ 1048576) (w : World) :
    (Instr.makeSlice t (.int .i64 (n : Int)) (.int .i64 (n : Int))).run Try.prog w = .ok (.slice (some ⟨w.heap.size, 0, none⟩) n n) (madeW w n) := by
  obtain ⟨i0, hi, hz0, hz1, hz2⟩ := info_parts infoInt
  have hr := run_make (P := Try.prog) w t 3 i0 (.int .i64 0) ht hi hz0 .i64 .i64 n n (by omega) (Int.le_refl _) (by rw [hz2]; omega) (by omega)
  simp only [Int.toNat_natCast, hz1] at hr
  exact hr
theorem run_make_ints (n : Nat) (hn : n ≤ 1048576) : ∀ w : World, (Instr.makeSlice 25 (.int .i64 (n : Int)) (.int .i64 (n : Int))).run Try.prog w = .ok (.slice (some ⟨w.heap.size, 0, none⟩) n n) (madeW w n) := run_make_of _ Try.underlying25 n hn

/-- How a call that makes a list ends. -/
def Gave (w : World) (L : List Int) (e : Ending) (w' : World) : Prop := ∃ v, e = .returned v ∧ Row w' w.heap.size v L ∧ Below w.heap.size w w'
/-- A call that answers a number, and changes nothing. -/
def Num (w : World) (x : Nat) (e : Ending) (w' : World) : Prop := e = .returned (.int .i64 (x : Nat)) ∧ w = w'
theorem empty_row (w : World) : Row (w.alloc (.cells #[] 3)) w.heap.size (.slice (some ⟨w.heap.size, 0, none⟩) 0 0) [] :=
  World.ownsRow_lit (base := w.heap.size) (e := 3) (size := 1) w #[] 0 (Nat.le_refl _) (by unfold maxLen; omega) rfl
end Go.Proofs.Ytoipcdhofhpkfaa

/- The model's l6In; the laws' toIntS: a list copied into memory of its own. -/


namespace Go.Proofs.Ytoipcdhofhpkfaa
open Go.RowKit
set_option linter.unusedVariables false


theorem in_yes (n lo hi : Int) (w : World) (h1 : lo ≤ n) (h2 : n ≤ hi) :
    Calls Try.prog 11 #[.int .i64 n, .int .i64 lo, .int .i64 hi] w fun e w' => e = .returned (.bool true) ∧ w = w' := by
  have e1 : decide (lo ≤ n) = true := by simpa using h1
  have e2 : decide (n ≤ hi) = true := by simpa using h2
  go_enter Try.func11, Try.ntmps11
  go_wp2
  go_ret
  exact ⟨rfl, rfl⟩
theorem in_low (n lo hi : Int) (w : World) (h1 : n < lo) :
    Calls Try.prog 11 #[.int .i64 n, .int .i64 lo, .int .i64 hi] w fun e w' => e = .returned (.bool false) ∧ w = w' := by
  have e1 : decide (lo ≤ n) = false := by simp; omega
  go_enter Try.func11, Try.ntmps11
  go_wp2
  go_ret
  exact ⟨rfl, rfl⟩
theorem in_high (n lo hi : Int) (w : World) (h1 : lo ≤ n) (h2 : hi < n) :
    Calls Try.prog 11 #[.int .i64 n, .int .i64 lo, .int .i64 hi] w fun e w' => e = .returned (.bool false) ∧ w = w' := by
  have e1 : decide (lo ≤ n) = true := by simpa using h1
  have e2 : decide (n ≤ hi) = false := by simp; omega
  go_enter Try.func11, Try.ntmps11
  go_wp2
  go_ret
  exact ⟨rfl, rfl⟩
/-- **l6In says whether a number is not below the one and not above the other.** -/
theorem in_any (n lo hi : Int) (w : World) :
    Calls Try.prog 11 #[.int .i64 n, .int .i64 lo, .int .i64 hi] w fun e w' => e = .returned (.bool (decide (lo ≤ n ∧ n ≤ hi))) ∧ w = w' := by
  by_cases h1 : lo ≤ n
  · by_cases h2 : n ≤ hi
    · exact (in_yes n lo hi w h1 h2).mono fun e w' ⟨he, hw⟩ => ⟨by rw [he]; exact ret_bool (by simp [h1, h2]), hw⟩
    · exact (in_high n lo hi w h1 (by omega)).mono fun e w' ⟨he, hw⟩ => ⟨by rw [he]; exact ret_bool (by simp [h2]), hw⟩
  · exact (in_low n lo hi w (by omega)).mono fun e w' ⟨he, hw⟩ => ⟨by rw [he]; exact ret_bool (by simp [h1]), hw⟩

/-! ### toIntS -/
/-- A slice that came in, or goes from call to call: its numbers are xs. -/
def Seen (w : World) (A : Option Addr) (xs : List Int) : Prop :=
  ∀ k, k < xs.length → ∃ b off, A = some ⟨b, off, none⟩ ∧ b < w.heap.size ∧ w.cell? ⟨b, off + k, none⟩ = some (.int .i64 (xs[k]?.getD 0))
theorem Seen.below {w w' : World} {A : Option Addr} {xs : List Int} (h : Seen w A xs) (hb : Below w.heap.size w w') : Seen w' A xs := fun k hk => by
  obtain ⟨b, off, hA, hlt, hc⟩ := h k hk
  exact ⟨b, off, hA, Nat.lt_of_lt_of_le hlt hb.size, (hb.cell (p := ⟨b, off + k, none⟩) hlt).trans hc⟩

/-- The first k places copied. -/
def copied (xs : List Int) (k : Nat) : List Int := xs.take k ++ List.replicate (xs.length - k) 0
theorem copied_zero (xs : List Int) : copied xs 0 = ints (List.replicate xs.length 0) := by simp [copied, ints]
theorem copied_all (xs : List Int) : copied xs xs.length = xs := by simp [copied]
theorem copied_length (xs : List Int) (k : Nat) (h : k ≤ xs.length) : (copied xs k).length = xs.length := by simp [copied]; omega
theorem copied_succ (xs : List Int) (k : Nat) (h : k < xs.length) : (copied xs k).set k (xs[k]?.getD 0) = copied xs (k + 1) := by
  unfold copied
  have hl : (xs.take k).length = k := by simp; omega
  have e : xs.length - k = (xs.length - (k + 1)) + 1 := by omega
  rw [List.set_append_right _ _ (by omega), hl, Nat.sub_self, e, List.replicate_succ, List.set_cons_zero, List.take_succ_eq_append_getElem h, List.append_assoc]
  simp [h]
end Go.Proofs.Ytoipcdhofhpkfaa

/- The model's l6In; the laws' toIntS: a list copied into memory of its own. -/



namespace Go.Proofs.Ytoipcdhofhpkfaa
open Go.RowKit
set_option linter.unusedVariables false


set_option maxHeartbeats 400000 in
theorem to_seen (A : Option Addr) (c : Nat) (xs : List Int) (w : World) (hs : xs.length ≤ 1048576) (h : Seen w A xs) :
    Calls Try.prog 8 #[.slice A xs.length c] w (Gave w xs) := by
  obtain ⟨n, hn⟩ : ∃ n, n = xs.length := ⟨_, rfl⟩
  have hmk := run_make_ints n (by omega)
  rw [← hn] at hs ⊢
  have HN := Lib.hid hn
  have H := Lib.hid h
  obtain ⟨g, eg⟩ : ∃ g, g = w.heap.size := ⟨_, rfl⟩
  have HG := Lib.hid eg
  have R0 := Lib.hid (madeW_row w n hs)
  have B0 := Lib.hid (madeW_below w n)
  clear eg hn h
  go_enter Try.func8, Try.ntmps8
  go_wp2
  clear hmk
  obtain ⟨w0, hw0⟩ : ∃ w0, w0 = madeW w n := ⟨_, rfl⟩
  rw [← hw0] at R0 B0 ⊢
  rw [← HG.out] at R0 ⊢
  clear hw0
  go_loopw [4] (fun i wr => ∃ k : Nat, k ≤ n ∧ i = .int .i64 k ∧ Hid (Row wr w.heap.size (.slice (some ⟨g, 0, none⟩) n n) (copied xs k)) ∧ Hid (Below w.heap.size w wr)) (fun i _ => n - (intOf i).toNat)
  case atStart => exact ⟨0, Nat.zero_le _, rfl, Lib.hid (by rw [copied_zero, ← HN.out, ← HG.out]; exact R0.out), B0⟩
  case round =>
    obtain ⟨k, hk, rfl, hr, hb⟩ := hrel
    by_cases hlt : k < n
    · obtain ⟨b, off, rfl, hbl, hc⟩ := H.out k (by have := HN.out; omega)
      obtain ⟨x, ex⟩ : ∃ x, x = xs[k]?.getD 0 := ⟨_, rfl⟩
      rw [← ex] at hc
      have hcw : wr.cell? ⟨b, off + k, none⟩ = some (.int .i64 x) := (hb.out.cell (p := ⟨b, off + k, none⟩) hbl).trans hc
      have hlen : k < (copied xs k).length := by rw [copied_length xs k (by have := HN.out; omega)]; have := HN.out; omega
      obtain ⟨y, ey⟩ : ∃ y, y = (copied xs k)[k]?.getD 0 := ⟨_, rfl⟩
      have hgc : wr.cell? ⟨g, k, none⟩ = some (.int .i64 y) := by rw [ey]; exact hr.out.cellAt k hlen
      have hgf : wr.frozen? ⟨g, k, none⟩ = false := hr.out.frozenAt k hlen
      have r2 := hr.out.set k hlen x
      rw [ex, copied_succ xs k (by have := HN.out; omega), ← ex] at r2
      have R2 := Lib.hid r2
      have hi1 : (0 : Int) ≤ (k : Int) ∧ (k : Int) < (n : Int) := by omega
      have HB := Lib.hid hbl
      clear hc ex ey hlen r2 hbl
      go_wp2
      go_roundw
      case rel => exact ⟨k + 1, by omega, by go_num, R2, Lib.hid (hb.out.setCell (p := ⟨g, k, none⟩) (by show w.heap.size ≤ g; have := HG.out; omega) _)⟩
      case measure => simp [intOf]; omega
    · have hkn : k = n := by omega
      subst hkn
      go_wp2
      go_ret
      exact ⟨_, rfl, by have h0 := hr.out; rw [HN.out, copied_all] at h0; rw [HN.out]; exact h0, hb.out⟩
end Go.Proofs.Ytoipcdhofhpkfaa
