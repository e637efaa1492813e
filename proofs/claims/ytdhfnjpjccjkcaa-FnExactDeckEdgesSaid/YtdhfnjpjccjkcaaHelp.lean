/- The contracts of the helpers of the exact laws (two lists compared; a list marked; the marks asked), over slices that the call itself owns. No conditions but those that each theorem names. -/
import Derived.Test.YtdhfnjpjccjkcaaRows
import Derived.WalkKit
import Derived.ProofKit
import Derived.OpenShut
import Derived.LoopTactic
import Derived.RegionTactic
import Derived.Deep.QuietTactic
import Derived.BigQuiet
import Derived.Outline
import Derived.Lib.Hide
import Derived.Below
import Derived.OwnWalk
import Derived.Laws.OwnMore
import Derived.Deep.Draws
import Derived.Maps.AppendAt
namespace Go.Proofs.Ytdhfnjpjccjkcaa
open Go.RowKit
set_option linter.unusedVariables false

/-- A slice value that the call owns: block B or later, and it holds the numbers xs. -/
def Row (w : World) (B : Nat) (v : Value) (xs : List Int) : Prop := w.ownsRow B 3 1 v xs.length (xs.map (Value.int .i64))

theorem getD_map (xs : List Int) (k : Nat) (hk : k < xs.length) : (xs.map (Value.int .i64))[k]? = some (.int .i64 (xs[k]?.getD 0)) := by
  simp [hk]

theorem Row.drewN {w : World} {B : Nat} {v : Value} {xs : List Int} (h : Row w B v xs) (n : Nat) : Row (w.drewN n) B v xs := h
theorem Row.alloc {w : World} {B : Nat} {v : Value} {xs : List Int} (h : Row w B v xs) (o : Obj) : Row (w.alloc o) B v xs := World.ownsRow.alloc h o

theorem Row.see {w : World} {B : Nat} {v : Value} {xs : List Int} (h : Row w B v xs) :
    ∃ A c, v = .slice A xs.length c ∧ ∀ k, k < xs.length → ∃ g, A = some ⟨g, 0, none⟩ ∧ B ≤ g ∧ w.cell? ⟨g, k, none⟩ = some (.int .i64 (xs[k]?.getD 0)) ∧ w.frozen? ⟨g, k, none⟩ = false := by
  have h0 := h
  unfold Row at h0
  rcases h0.2 with ⟨rfl, hn⟩ | ⟨g, cap, cur, rfl, hg, _, _, _, _, _⟩
  · exact ⟨none, 0, by rw [hn], fun k hk => absurd hk (by omega)⟩
  · exact ⟨_, cap, rfl, fun k hk => ⟨g, rfl, hg, by rw [World.ownsRow.cellAt h0 k (by omega)]; exact getD_map xs k hk, World.ownsRow.frozenAt h0 k⟩⟩

theorem take_eq_succ {xs ys : List Int} {k : Nat} (hk : k < xs.length) (hl : xs.length = ys.length) (h : xs.take k = ys.take k) (he : xs[k]?.getD 0 = ys[k]?.getD 0) : xs.take (k + 1) = ys.take (k + 1) := by
  have hk' : k < ys.length := by omega
  rw [List.take_succ_eq_append_getElem hk, List.take_succ_eq_append_getElem hk', h]
  simp [hk, hk'] at he
  rw [he]
theorem ne_of_get {xs ys : List Int} {k : Nat} (h : ¬ xs[k]?.getD 0 = ys[k]?.getD 0) : xs ≠ ys := fun e => h (by rw [e])

/-- How eqIntS ends. -/
def SaidEq (w : World) (xs ys : List Int) (e : Ending) (w' : World) : Prop := e = .returned (.bool (decide (xs = ys))) ∧ ∃ n, w' = w.drewN n

theorem ret_bool {a b : Bool} (h : a = b) : Ending.returned (.bool a) = .returned (.bool b) := by rw [h]

theorem eq_same (n : Nat) (A A' : Option Addr) (c c' : Nat) (xs ys : List Int) (w : World) (hx : xs.length = n) (hy : ys.length = n) (hs : n ≤ 1048576)
    (hA : ∀ k, k < n → ∃ g, A = some ⟨g, 0, none⟩ ∧ w.cell? ⟨g, k, none⟩ = some (.int .i64 (xs[k]?.getD 0)))
    (hA' : ∀ k, k < n → ∃ g, A' = some ⟨g, 0, none⟩ ∧ w.cell? ⟨g, k, none⟩ = some (.int .i64 (ys[k]?.getD 0))) :
    Calls Try.prog 7 #[.slice A n c, .slice A' n c'] w (SaidEq w xs ys) := by
  have HA := Lib.hid hA
  have HA' := Lib.hid hA'
  have HX := Lib.hid hx
  have HY := Lib.hid hy
  clear hA hA' hx hy
  go_enter Try.func7, Try.ntmps7
  go_wp2
  go_loopw [5] (fun i wr => ∃ k m : Nat, k ≤ n ∧ i = .int .i64 k ∧ Hid (xs.take k = ys.take k) ∧ wr = w.drewN m) (fun i _ => n - (intOf i).toNat)
  case atStart => exact ⟨0, 0, Nat.zero_le _, rfl, Lib.hid (by simp), rfl⟩
  case round =>
    obtain ⟨k, m, hk, rfl, ht, rfl⟩ := hrel
    by_cases hlt : k < n
    · obtain ⟨g, rfl, hc⟩ := HA.out k hlt
      obtain ⟨g', rfl, hc'⟩ := HA'.out k hlt
      have hi1 : (0 : Int) ≤ (k : Int) := by omega
      have hi2 : (k : Int) < (n : Int) := by omega
      by_cases he : xs[k]?.getD 0 = ys[k]?.getD 0
      · have hb : (xs[k]?.getD 0 != ys[k]?.getD 0) = false := by simp [he]
        have HE := Lib.hid he
        clear he
        go_wp2
        go_quiet (fail)
        go_wp2
        go_roundw
        case rel => exact ⟨k + 1, _, by omega, by go_num, Lib.hid (take_eq_succ (by have := HX.out; omega) (by rw [HX.out, HY.out]) ht.out HE.out), rfl⟩
        case measure => simp [intOf]; omega
      · have hb : (xs[k]?.getD 0 != ys[k]?.getD 0) = true := by simp [he]
        have HE := Lib.hid he
        clear he
        go_wp2
        go_quiet (fail)
        go_wp2
        go_ret
        exact ⟨ret_bool (by simp; exact ne_of_get HE.out), _, World.drewN_drewN _ _ _⟩
    · go_wp2
      go_ret
      have hkn : k = n := by omega
      subst hkn
      exact ⟨ret_bool (by have h1 := ht.out; rw [List.take_of_length_le (by rw [HX.out]; omega), List.take_of_length_le (by rw [HY.out]; omega)] at h1; simp [h1]), _, rfl⟩

theorem eq_other (n n' : Nat) (A A' : Option Addr) (c c' : Nat) (w : World) (hne : n ≠ n') :
    Calls Try.prog 7 #[.slice A n c, .slice A' n' c'] w fun e w' => e = .returned (.bool false) ∧ w = w' := by
  have hb : ((n : Int) != (n' : Int)) = true := by simp; omega
  go_enter Try.func7, Try.ntmps7
  go_wp2
  go_ret
  exact ⟨rfl, rfl⟩

/-- **eqIntS tells whether two lists are one.** -/
theorem eq_any (B B' : Nat) (v1 v2 : Value) (xs ys : List Int) (w : World) (h1 : Row w B v1 xs) (h2 : Row w B' v2 ys) (hs : xs.length ≤ 1048576) :
    Calls Try.prog 7 #[v1, v2] w (SaidEq w xs ys) := by
  obtain ⟨A, c, rfl, hA⟩ := h1.see
  obtain ⟨A', c', rfl, hA'⟩ := h2.see
  by_cases hl : ys.length = xs.length
  · rw [hl] at hA' ⊢
    exact eq_same xs.length A A' c c' xs ys w rfl hl hs (fun k hk => by obtain ⟨g, a, _, b, _⟩ := hA k hk; exact ⟨g, a, b⟩) (fun k hk => by obtain ⟨g, a, _, b, _⟩ := hA' k hk; exact ⟨g, a, b⟩)
  · refine (eq_other xs.length ys.length A A' c c' w (by omega)).mono fun e w' ⟨he, hw⟩ => ⟨?_, 0, hw.symm⟩
    rw [he]
    exact ret_bool (by symm; simp; intro h; exact hl (by rw [h]))

/-! ### markIntS, heldIntS -/
/-- The marks k, k + 1, .. -/
def marks (k : Int) (n : Nat) : List Int := (List.range n).map fun (i : Nat) => k + (i : Int)
theorem marks_length (k : Int) (n : Nat) : (marks k n).length = n := by simp [marks]
theorem marks_get (k : Int) (n i : Nat) (h : i < n) : (marks k n)[i]?.getD 0 = k + i := by simp [marks, h]
/-- The first i places are marked, the others are as they were. -/
def partly (k : Int) (xs : List Int) (i : Nat) : List Int := marks k i ++ xs.drop i
theorem partly_zero (k : Int) (xs : List Int) : partly k xs 0 = xs := by simp [partly, marks]
theorem partly_all (k : Int) (xs : List Int) : partly k xs xs.length = marks k xs.length := by simp [partly]
theorem partly_length (k : Int) (xs : List Int) (i : Nat) (h : i ≤ xs.length) : (partly k xs i).length = xs.length := by simp [partly, marks]; omega
theorem partly_succ (k : Int) (xs : List Int) (i : Nat) (h : i < xs.length) : (partly k xs i).set i (k + i) = partly k xs (i + 1) := by
  unfold partly
  have e : i = (marks k i).length := by rw [marks_length]
  rw [List.set_append_right _ _ (by rw [marks_length]; omega), marks_length, Nat.sub_self, List.drop_eq_getElem_cons h, List.set_cons_zero]
  simp [marks, List.range_succ]

theorem Row.set {w : World} {B g cap : Nat} {n : Nat} {xs : List Int} (h : Row w B (.slice (some ⟨g, 0, none⟩) n cap) xs) (j : Nat) (hj : j < xs.length) (x : Int) :
    Row (w.setCell ⟨g, j, none⟩ (.int .i64 x)) B (.slice (some ⟨g, 0, none⟩) n cap) (xs.set j x) := by
  obtain ⟨h1, h2⟩ := h
  have hn : n = xs.length := by
    rcases h2 with ⟨hv, _⟩ | ⟨g', cap', cur, hv, _⟩
    · cases hv
    · cases hv; rfl
  subst hn
  have := World.ownsRow.stored (w := w) (base := B) (e := 3) (size := 1) (n := xs.length) ⟨h1, h2⟩ j (.int .i64 x)
  unfold Row
  rw [List.length_set, List.map_set]
  exact this.1

def SaidMark (w : World) (B g : Nat) (v : Value) (k : Int) (n : Nat) (e : Ending) (w' : World) : Prop :=
  e = .returned (.int .i64 (k + n)) ∧ Row w' B v (marks k n) ∧ w.grownBy w' (some g)

theorem ret_int {a b : Int} (h : a = b) : Ending.returned (.int .i64 a) = .returned (.int .i64 b) := by rw [h]

set_option maxHeartbeats 400000 in
theorem mark_own (B g cap : Nat) (xs : List Int) (k : Int) (w : World) (hs : xs.length ≤ 1048576) (hk0 : 0 ≤ k) (hk : k ≤ 1048577) (h : Row w B (.slice (some ⟨g, 0, none⟩) xs.length cap) xs) :
    Calls Try.prog 8 #[.slice (some ⟨g, 0, none⟩) xs.length cap, .int .i64 k] w (SaidMark w B g (.slice (some ⟨g, 0, none⟩) xs.length cap) k xs.length) := by
  obtain ⟨n, hn⟩ : ∃ n, n = xs.length := ⟨_, rfl⟩
  rw [← hn] at hs h ⊢
  have HN := Lib.hid hn
  have H := Lib.hid h
  clear h hn
  go_enter Try.func8, Try.ntmps8
  go_wp2
  go_loopw [1, 5] (fun q i wr => ∃ j : Nat, j ≤ n ∧ i = .int .i64 j ∧ q = .int .i64 (k + j) ∧ Hid (Row wr B (.slice (some ⟨g, 0, none⟩) n cap) (partly k xs j)) ∧ Hid (w.grownBy wr (some g))) (fun _ i _ => n - (intOf i).toNat)
  case atStart => exact ⟨0, Nat.zero_le _, rfl, by simp, Lib.hid (by rw [partly_zero]; exact H.out), Lib.hid (World.grownBy.refl w _)⟩
  case round =>
    obtain ⟨j, hj, rfl, rfl, hr, hg⟩ := hrel
    by_cases hlt : j < n
    · have hi1 : (0 : Int) ≤ (j : Int) := by omega
      have hi2 : (j : Int) < (n : Int) := by omega
      have hlen : j < (partly k xs j).length := by rw [partly_length k xs j (by have := HN.out; omega)]; have := HN.out; omega
      obtain ⟨A, c, hv, hA⟩ := hr.out.see
      obtain ⟨g', hg', _, hc, hf⟩ := hA j hlen
      have hgg : g = g' := by rw [hg'] at hv; cases hv; rfl
      subst hgg
      clear hA hv hg'
      have hx := hr.out.set j hlen (k + j)
      have HX := Lib.hid hx
      clear hx hlen
      go_wp2
      go_roundw
      case rel => exact ⟨j + 1, by omega, by go_num, by go_num, Lib.hid (by have h0 := HX.out; rw [partly_succ k xs j (by have := HN.out; omega)] at h0; exact h0), Lib.hid (World.grownBy.trans hg.out ⟨rfl, rfl, rfl, by simp, fun i _ hk => Below.heap_setCell _ _ _ _ (fun e => hk (by simp [e]))⟩)⟩
      case measure => simp [intOf]; omega
    · go_wp2
      go_ret
      have hjn : j = n := by omega
      subst hjn
      exact ⟨rfl, by have h0 := hr.out; rw [HN.out, partly_all] at h0; rw [HN.out]; exact h0, hg.out⟩

theorem mark_none (A : Option Addr) (c : Nat) (k : Int) (w : World) (hk0 : 0 ≤ k) (hk : k ≤ 1048577) :
    Calls Try.prog 8 #[.slice A 0 c, .int .i64 k] w fun e w' => e = .returned (.int .i64 k) ∧ w = w' := by
  go_enter Try.func8, Try.ntmps8
  go_wp2
  refine wp_loop_rounds 1 ?_
  rw [rounds_succ]
  go_wp2
  go_ret
  exact ⟨rfl, rfl⟩

/-- How markIntS ends. -/
def Marked (w : World) (B : Nat) (v : Value) (k : Int) (n : Nat) (e : Ending) (w' : World) : Prop :=
  e = .returned (.int .i64 (k + n)) ∧ Row w' B v (marks k n) ∧ w.grownBy w' v.ownBlock

/-- **markIntS puts the marks k, k + 1, .. in the place of a list's numbers, and returns the next mark.** -/
theorem mark_any (B : Nat) (v : Value) (xs : List Int) (k : Int) (w : World) (hs : xs.length ≤ 1048576) (hk0 : 0 ≤ k) (hk : k ≤ 1048577) (h : Row w B v xs) :
    Calls Try.prog 8 #[v, .int .i64 k] w (Marked w B v k xs.length) := by
  have h0 := h
  unfold Row at h0
  rcases h0.2 with ⟨rfl, hn⟩ | ⟨g, cap, cur, rfl, hg, _, _, _, _, _⟩
  · refine (mark_none none 0 k w hk0 hk).mono fun e w' ⟨he, hw⟩ => ?_
    subst hw
    have hx : xs = [] := List.eq_nil_of_length_eq_zero hn
    subst hx
    exact ⟨by rw [he]; simp, by simpa [marks] using h, World.grownBy.refl w _⟩
  · exact (mark_own B g cap xs k w hs hk0 hk h).mono fun e w' ⟨he, hr, hg⟩ => ⟨he, hr, hg⟩

theorem held_same (n : Nat) (A : Option Addr) (c : Nat) (k : Int) (w : World) (hs : n ≤ 1048576) (hk0 : 0 ≤ k) (hk : k ≤ 1048577)
    (hA : ∀ i, i < n → ∃ g, A = some ⟨g, 0, none⟩ ∧ w.cell? ⟨g, i, none⟩ = some (.int .i64 (k + i))) :
    Calls Try.prog 9 #[.slice A n c, .int .i64 k] w fun e w' => e = .returned (.int .i64 (k + n)) ∧ w = w' := by
  have HA := Lib.hid hA
  clear hA
  go_enter Try.func9, Try.ntmps9
  go_wp2
  go_loop [1, 5] (fun q i => ∃ j : Nat, j ≤ n ∧ i = .int .i64 j ∧ q = .int .i64 (k + j)) (fun _ i => n - (intOf i).toNat)
  case atStart => exact ⟨0, Nat.zero_le _, rfl, by simp⟩
  case round =>
    obtain ⟨j, hj, rfl, rfl⟩ := hrel
    by_cases hlt : j < n
    · obtain ⟨g, rfl, hc⟩ := HA.out j hlt
      have hi1 : (0 : Int) ≤ (j : Int) := by omega
      have hi2 : (j : Int) < (n : Int) := by omega
      go_wp2
      go_round
      case rel => exact ⟨j + 1, by omega, by go_num, by go_num⟩
      case measure => simp [intOf]; omega
    · go_wp2
      go_ret
      have hjn : j = n := by omega
      subst hjn
      exact ⟨rfl, rfl⟩

/-- **heldIntS, asked of a list that bears the marks, returns the next mark.** -/
theorem held_any (B : Nat) (v : Value) (n : Nat) (k : Int) (w : World) (hs : n ≤ 1048576) (hk0 : 0 ≤ k) (hk : k ≤ 1048577) (h : Row w B v (marks k n)) :
    Calls Try.prog 9 #[v, .int .i64 k] w fun e w' => e = .returned (.int .i64 (k + n)) ∧ w = w' := by
  obtain ⟨A, c, rfl, hA⟩ := h.see
  rw [marks_length] at hA ⊢
  exact held_same n A c k w hs hk0 hk fun i hi => by
    obtain ⟨g, a, _, b, _⟩ := hA i hi
    exact ⟨g, a, by rw [b, marks_get k n i hi]⟩

/-! ### What a function of one list and one bool tells -/
theorem Row.below {w w' : World} {B : Nat} {v : Value} {xs : List Int} (h : Row w B v xs) (hb : Below w.heap.size w w') : Row w' B v xs :=
  World.ownsRow.kept (row := none) h ⟨hb.os, hb.tape, hb.output, hb.size, fun k hk _ => hb.block k hk⟩ (by cases hv : v.ownBlock <;> simp)
theorem Row.lt {w : World} {B : Nat} {v : Value} {xs : List Int} (h : Row w B v xs) : ∀ k, v.ownBlock = some k → B ≤ k ∧ k < w.heap.size := World.ownsRow.lt h
/-- A row of elder blocks stays while a row of younger ones is written. -/
theorem Row.apart {w1 w2 : World} {B B' : Nat} {v v' : Value} {xs : List Int} (h : Row w1 B v xs) (hv : ∀ k, v.ownBlock = some k → k < B') (hv' : ∀ k, v'.ownBlock = some k → B' ≤ k) (hg : w1.grownBy w2 v'.ownBlock) : Row w2 B v xs := by
  refine World.ownsRow.kept h hg ?_
  cases hv0 : v.ownBlock with
  | none => exact .inl rfl
  | some a =>
    refine .inr fun e => ?_
    have h1 := hv a hv0
    have h2 := hv' a e.symm
    omega
theorem below_drewN {B : Nat} {a w : World} (h : Below B a w) (n : Nat) : Below B a (w.drewN n) := h.trans ⟨rfl, rfl, rfl, Nat.le_refl _, fun _ _ => rfl⟩

def Told (w : World) (L : List Int) (ok : Bool) (e : Ending) (w' : World) : Prop :=
  ∃ v, e = .returned (.tuple #[v, .bool ok]) ∧ Row w' w.heap.size v L ∧ Below w.heap.size w w'
def Fine (w : World) (e : Ending) (w' : World) : Prop := e = .returned (.bool true) ∧ Below w.heap.size w w'

def Yes (w : World) (e : Ending) (w' : World) : Prop := e = .returned (.bool true) ∧ ∃ n, w' = w.drewN n
theorem eq_yes (B B' : Nat) (v1 v2 : Value) (xs : List Int) (w : World) (h1 : Row w B v1 xs) (h2 : Row w B' v2 xs) (hs : xs.length ≤ 1048576) :
    Calls Try.prog 7 #[v1, v2] w (Yes w) :=
  (eq_any B B' v1 v2 xs xs w h1 h2 hs).mono fun e w' ⟨he, hw⟩ => ⟨by rw [he]; exact ret_bool (by simp), hw⟩

theorem Row.cellAt {w : World} {B g n cap : Nat} {xs : List Int} (h : Row w B (.slice (some ⟨g, 0, none⟩) n cap) xs) (k : Nat) (hk : k < xs.length) : w.cell? ⟨g, k, none⟩ = some (.int .i64 (xs[k]?.getD 0)) := by
  obtain ⟨A, c, hv, hA⟩ := h.see
  obtain ⟨g', hg', _, hc, _⟩ := hA k hk
  rw [hg'] at hv
  cases hv
  exact hc
theorem Row.frozenAt {w : World} {B g n cap : Nat} {xs : List Int} (h : Row w B (.slice (some ⟨g, 0, none⟩) n cap) xs) (k : Nat) (hk : k < xs.length) : w.frozen? ⟨g, k, none⟩ = false := by
  obtain ⟨A, c, hv, hA⟩ := h.see
  obtain ⟨g', hg', _, _, hf⟩ := hA k hk
  rw [hg'] at hv
  cases hv
  exact hf

theorem Row.mono {w : World} {B B' : Nat} {v : Value} {xs : List Int} (h : Row w B v xs) (hB : B' ≤ B) : Row w B' v xs := by
  obtain ⟨h1, h2⟩ := h
  refine ⟨h1, ?_⟩
  rcases h2 with h2 | ⟨g, cap, cur, hv, hg, r⟩
  · exact .inl h2
  · exact .inr ⟨g, cap, cur, hv, Nat.le_trans hB hg, r⟩

end Go.Proofs.Ytdhfnjpjccjkcaa
