/- Texts in one: Link, SeqO, CodeMath, SpecCode, Edges, EdgeMath, SizeCode, SpecSize, CodeIn, ImplCode, SpecEdges, ImplEdges, NamedMath, NamesMath, NamesDef, Grid, RoundTail, ImplNamed, SpecNamed, NamesFns, AreNames, NamedLaw, Ones, DegsOf, Degrees, ImplDegrees. -/
import Derived.Test.YtjkepoalepmjoaaDoorBaseA
import Derived.RangeFuncNested
import Derived.RangeFuncBound
import Derived.RangeFuncCalls
import Derived.RangeFuncLeaves
import Derived.RangeFuncFrom
import Derived.RangeFuncBox
import Derived.StillTail
import Derived.StillTactics
import Derived.OrdersIn
import Derived.TacticsIn
import Derived.StillTailTactics

/- link: a pair is made an edge. -/

namespace Go.Proofs.YtjkepoalepmjoaaDoor
open Go.RowKit
set_option linter.unusedVariables false

set_option maxHeartbeats 400000 in
theorem link_any (B g cap n : Nat) (L : List Nat) (a b : Nat) (w : World) (hn : n ≤ 6) (hL : L.length = n) (ha : a < n) (hb : b < n) (hab : a ≠ b) (hx : ∀ x ∈ L, x < 1048576) (h : Row w B (.slice (some ⟨g, 0, none⟩) n cap) (ints L)) :
    Calls Tryd.prog 83 #[.slice (some ⟨g, 0, none⟩) n cap, .int .i64 a, .int .i64 b] w (Wrote w B g (.slice (some ⟨g, 0, none⟩) n cap) (lnk L a b 1)) := by
  have h1 : (0 : Int) ≤ (a : Int) ∧ (a : Int) < (n : Int) := by omega
  have h2 : (0 : Int) ≤ (b : Int) ∧ (b : Int) < (n : Int) := by omega
  obtain ⟨x, ex⟩ : ∃ x : Nat, x = L[a]?.getD 0 := ⟨_, rfl⟩
  obtain ⟨y, ey⟩ : ∃ y : Nat, y = L[b]?.getD 0 := ⟨_, rfl⟩
  have hxa : x < 1048576 := by rw [ex, List.getElem?_eq_getElem (by omega)]; exact hx _ (List.getElem_mem _)
  have hya : y < 1048576 := by rw [ey, List.getElem?_eq_getElem (by omega)]; exact hx _ (List.getElem_mem _)
  have hca : w.cell? ⟨g, a, none⟩ = some (.int .i64 x) := by
    rw [h.cellAt a (by rw [ints_length]; omega), ints_get, ← ex]
  have hcb : w.cell? ⟨g, b, none⟩ = some (.int .i64 y) := by
    rw [h.cellAt b (by rw [ints_length]; omega), ints_get, ← ey]
  have hfa : w.frozen? ⟨g, a, none⟩ = false := h.frozenAt a (by rw [ints_length]; omega)
  have hfb : w.frozen? ⟨g, b, none⟩ = false := h.frozenAt b (by rw [ints_length]; omega)
  have hcb2 : ∀ z, (w.setCell ⟨g, a, none⟩ z).cell? ⟨g, b, none⟩ = some (.int .i64 y) := fun z => (World.cell?_setCell_other _ _ _ _ (by simp)).trans hcb
  have o1 := or_pow x b (by omega) (by omega)
  have o2 := or_pow y a (by omega) (by omega)
  have HX := Lib.hid ex
  have HY := Lib.hid ey
  have H := Lib.hid h
  have HL := Lib.hid hL
  have hd : a ≠ b := hab
  clear h ex ey hx hcb hL
  go_enter Tryd.func83, Tryd.ntmps83
  go_wp2
  go_region
  all_goals go_wp2
  all_goals go_region
  all_goals go_wp2
  all_goals go_end0
  all_goals
    refine ⟨⟨_, rfl⟩, ?_, grown_drew (grown_drew (grown_set (grown_set (World.grownBy.refl w _) _ _) _ _))⟩
    have r1 := H.out.set a (by rw [ints_length, HL.out]; omega) ((x ||| 2 ^ b : Nat) : Int)
    have r2 := r1.set b (by rw [List.length_set, ints_length, HL.out]; omega) ((y ||| 2 ^ a : Nat) : Int)
    rw [ints_set, ints_set] at r2
    have e : lnk L a b 1 = (L.set a (x ||| 2 ^ b)).set b (y ||| 2 ^ a) := by
      unfold lnk
      rw [Nat.one_mul, Nat.one_mul, ← HX.out, List.getElem?_set_ne hd, ← HY.out]
    rw [e]
    exact r2
end Go.Proofs.YtjkepoalepmjoaaDoor

/- A loop over an iterator whose own text is a loop over another iterator: the contract for such an iterator, and what a caller owes. -/






namespace Go.Proofs.YtjkepoalepmjoaaDoor
open Go.RowKit Go.Shelf
set_option linter.unusedVariables false

/-- Some blocks lie as they lay. -/
def Lie (b d : Nat) (A B : World) : Prop := ∀ (k : Nat) (o : Obj), b ≤ k → k < b + d → A.heap[k]? = some o → B.heap[k]? = some o
theorem Lie.trans {b d : Nat} {A B C : World} (h : Lie b d A B) (k : Lie b d B C) : Lie b d A C := fun i o h1 h2 h3 => k i o h1 h2 (h i o h1 h2 h3)
theorem lie_put {b d : Nat} {W : World} {l : Nat} (o' : Obj) (h : l < b) : Lie b d W (W.putObj l o') := fun k o h1 _ h3 => (World.putObj_heap_other (by omega)).trans h3

/-- The iterator lays blocks of its own while it runs (d of them first): the caller's facts abide them, and a round leaves them alone. -/
def Outer (d : Nat) {α : Type} (F : Fence) (n : Nat) (P : Program) (g : Nat) (lb : Array Value) (encs : α → Array Value) (Kp : World → World → Prop) (S Sp : List α → Prop) (N : Nat) (w : World) : Prop :=
  ∀ (l : Nat) (J Jx : List α → World → Prop) (W : World), Below w.heap.size w W → OwnFrom W.heap.size J → OwnFrom W.heap.size Jx →
    (∀ pre x W1, J pre W1 → pre.length < N → YieldAt F (n - 1) P l (encs x) W1 fun e W' =>
      (e = .returned (.bool true) ∧ J (pre ++ [x]) W' ∧ Kp W1 W' ∧ KeepsFrom W.heap.size W1 W' ∧ Lie W.heap.size d W1 W') ∨ (e = .returned (.bool false) ∧ Jx (pre ++ [x]) W' ∧ KeepsFrom W.heap.size W1 W' ∧ Lie W.heap.size d W1 W')) →
    J [] W →
    CallsIn F n P g (#[.func (.yield l) #[] #[]] ++ lb) W fun e W' => (∃ v, e = .returned v) ∧ ((∃ xs, S xs ∧ J xs W') ∨ (∃ pre, Sp pre ∧ Jx pre W'))

theorem keepsFrom_put {B : Nat} {W : World} {l : Nat} (o' : Obj) (h : l < B) : KeepsFrom B W (W.putObj l o') :=
  KeepsFrom.of_grownBy (grownBy_putObj' W l o') (fun j e => by cases e; exact h)
theorem keepsFrom_up {B B' : Nat} {W W' : World} (h : KeepsFrom B W W') (hb : B ≤ B') : KeepsFrom B' W W' := ⟨h.size, fun k o hk => h.same k o (Nat.le_trans hb hk)⟩

variable {F : Fence} {n : Nat} {P : Program}

/-- What a caller of such an iterator owes. -/
theorem wpIn_outer {α : Type} {g : Operand} {ps : Array Tmp} {assign body : Code} {Q : Exit → Act → World → Prop} {a : Act} {w : World}
    (hro : F.round = none) (h1 : 1 ≤ n) {gf : Nat} {lb : Array Value} (hg : a.eval g = .func (.func gf) #[] lb) (hFg : F.fn gf) (eg : ∀ args w, (callFunc gf args).run P w = .ok (.enter gf args) w)
    {encs : α → Array Value} {Kp : World → World → Prop} {S Sp : List α → Prop} {N : Nat} {w0 : World} {d : Nat} (hseq : Outer d F (n - 1) P gf lb encs Kp S Sp N w0)
    (hKt : ∀ {A B C : World}, Kp A B → Kp B C → Kp A C) (hKb : ∀ (W : World) (l : Nat) (o o' : Obj), w.heap.size ≤ l → W.heap[l]? = some o → o.isCells = false → o.isWalk = false → Kp W (W.putObj l o')) (hb0 : Below w0.heap.size w0 w) (hps : ∀ x, (encs x).size = ps.size)
    (I : List α → World → Prop) (Ix : Code → List α → World → Prop) (hI : OwnFrom w.heap.size I) (hIx : ∀ c, OwnFrom w.heap.size (Ix c)) (h0 : I [] w) (a₁ : α → Act)
    (hassign : ∀ (l : Nat) (x : α) (W : World) (K : Act → World → Prop), K (a₁ x) W →
      assign.wpIn (F.inRound l) (n - 1 - 1) P (Exit.then K (fun _ _ _ => False)) { tmps := (ps.zip (encs x)).foldl (fun t (p, v) => t.setIfInBounds p v) a.tmps, defers := [] } W)
    (hbody : ∀ (l : Nat) (pre : List α) (x : α) (W : World), I pre W → pre.length < N → body.wpIn (F.inRound l) (n - 1 - 1) P (fun e a' Z => ownPostG w.heap.size Kp I Ix (pre ++ [x]) W e a' Z ∧ Lie (w.heap.size + 2) d W Z) (a₁ x) W)
    (hdone : ∀ (D : Nat) (xs : List α) (W : World), w.heap.size ≤ D → S xs → I xs W → W.heap[D]? = some (.deferred (some [])) → Q .normal { a with defers := { target := .collected D, args := #[] } :: a.defers } W)
    (hstop : ∀ (D : Nat) (c : Code) (pre : List α) (W : World), w.heap.size ≤ D → Sp pre → Ix c pre W → W.heap[D]? = some (.deferred (some [])) → c.wpIn F n P Q { a with defers := { target := .collected D, args := #[] } :: a.defers } W) :
    (Code.rangeFunc g ps assign body).wpIn F n P Q a w := by
  refine wpIn_rangeFunc ?_
  intro fn hfn
  rw [hro]
  -- the loop's record, in one of its states
  obtain ⟨m, hm⟩ : ∃ m, m = w.heap.size := ⟨_, rfl⟩
  obtain ⟨at_, hat⟩ : ∃ at_ : LoopState → Option Code → Obj, at_ = fun st pe => .loop { state := st, pending := pe, fn, tmps := a.tmps, params := ps, assign, body, defers := m } := ⟨_, rfl⟩
  obtain ⟨V, hV⟩ : ∃ V, V = (w.alloc (.deferred (some []))).alloc (at_ .ready none) := ⟨_, rfl⟩
  have sV : V.heap.size = m + 2 := by rw [hV, hm]; simp
  have rV : V.heap[m + 1]? = some (at_ .ready none) := by
    have e := World.alloc_heap_new (w.alloc (.deferred (some []))) (at_ .ready none)
    rw [World.size_alloc, ← hm] at e
    rw [hV]; exact e
  have dV : V.heap[m]? = some (.deferred (some [])) := by
    rw [hV, hm]; exact (Below.heap_alloc _ _ _ (by simp)).trans (World.alloc_heap_new w _)
  have iV : I [] V := by rw [hV]; exact hI.alloc _ (hI.alloc _ h0)
  have bV : Below w0.heap.size w0 V := by
    rw [hV]; exact hb0.trans ((((Below.refl _ w).alloc (Nat.le_refl _) _).alloc (by simp) _).mono hb0.size)
  refine ⟨m + 1, [{ target := .collected m, args := #[] }], V, { target := .fn (.func gf) lb, args := #[.func (.yield (m + 1)) #[] #[]] }, V, gf, #[.func (.yield (m + 1)) #[] #[]] ++ lb, V, ?_, ?_, ?_, ?_, fun _ => h1, ?_⟩
  · rw [hV, hat, hm]; exact run_enterLoop_outer _ _ _ _ _
  · simp only [resolve, hg]
    simp [go_sem]
  · intro f' hf'; simp [Target.leads] at hf'; subst hf'; exact hFg
  · simp [invoke, go_sem, eg]
  · rw [← hm] at hI hIx hbody hdone hstop hKb
    have up : ∀ {row : Option Nat} {A : World}, (∀ r, row = some r → V.heap.size ≤ r ∧ ∃ o : Obj, A.heap[r]? = some o ∧ o.isCells = false) → (∀ r, row = some r → m ≤ r ∧ ∃ o : Obj, A.heap[r]? = some o ∧ o.isCells = false) :=
      fun h r e => ⟨by have := (h r e).1; omega, (h r e).2⟩
    have far : ∀ {row : Option Nat} {A B : World} {k : Nat} {o : Obj}, A.grownBy B row → (∀ r, row = some r → V.heap.size ≤ r ∧ ∃ o : Obj, A.heap[r]? = some o ∧ o.isCells = false) → k < m + 2 → A.heap[k]? = some o → B.heap[k]? = some o :=
      fun hgr h hk e => (hgr.block _ (Array.getElem?_eq_some_iff.1 e).1 (fun e' => by have := (h _ e'.symm).1; omega)).trans e
    refine (hseq (m + 1) (fun pre W => I pre W ∧ W.heap[m + 1]? = some (at_ .ready none) ∧ W.heap[m]? = some (.deferred (some [])))
      (fun pre W => ∃ c, Ix c pre W ∧ W.heap[m + 1]? = some (at_ .done (some c)) ∧ W.heap[m]? = some (.deferred (some []))) V bV
      (fun s A B row hs hgr hr => ⟨hI s A B row hs.1 hgr (up hr), far hgr hr (by omega) hs.2.1, far hgr hr (by omega) hs.2.2⟩)
      (fun s A B row hs hgr hr => by
        obtain ⟨c, q1, q2, q3⟩ := hs
        exact ⟨c, hIx c s A B row q1 hgr (up hr), far hgr hr (by omega) q2, far hgr hr (by omega) q3⟩)
      ?_ ⟨iV, rV, dV⟩).mono ?_
    · -- a round
      rintro pre x W ⟨hi, hl, hd⟩ hlen
      have hlt : m + 1 < W.heap.size := (Array.getElem?_eq_some_iff.1 hl).1
      have hl' := hl
      rw [hat] at hl'
      have hy := run_yield (P := P) (args := encs x) hl' (by exact hps x)
      refine ⟨fn, _, assign, body, hy, roundIn_of_wpIn hfn (hassign _ x W _ ⟨_, run_beginRound hl' rfl, ?_⟩)⟩
      obtain ⟨U, hU⟩ : ∃ U, U = W.putObj (m + 1) (at_ .busy none) := ⟨_, rfl⟩
      have rU : U.heap[m + 1]? = some (at_ .busy none) := by rw [hU]; exact World.putObj_heap_same hlt
      have dU : U.heap[m]? = some (.deferred (some [])) := by rw [hU]; exact (World.putObj_heap_other (by omega)).trans hd
      have kU : Kp W U := by rw [hU]; exact hKb _ _ _ _ (by omega) hl (by rw [hat]; rfl) (by rw [hat]; rfl)
      have iU : I pre U := by rw [hU]; exact hI.putObj _ hi (by omega) hl (by rw [hat]; rfl)
      have fU : KeepsFrom V.heap.size W U := by rw [hU]; exact keepsFrom_put _ (by omega)
      have lU : Lie V.heap.size d W U := by rw [hU]; exact lie_put _ (by omega)
      have eU : W.putObj (m + 1) (.loop { state := .busy, pending := none, fn, tmps := a.tmps, params := ps, assign, body, defers := m }) = U := by rw [hU, hat]
      show body.wpIn _ _ _ _ _ (W.putObj (m + 1) (.loop { state := .busy, pending := none, fn, tmps := a.tmps, params := ps, assign, body, defers := m }))
      rw [eU]
      refine wpIn_mono (hbody _ pre x U iU hlen) ?_
      have fin : ∀ (jump : Option Code) (Z : World), KeepsFrom m U Z → Lie (m + 2) d U Z →
          (Instr.endRound (m + 1) jump).run P Z = .ok (.bool jump.isNone) (Z.putObj (m + 1) (at_ (if jump.isNone then .ready else .done) jump)) ∧ Z.heap[m + 1]? = some (at_ .busy none) ∧
          (Z.putObj (m + 1) (at_ (if jump.isNone then .ready else .done) jump)).heap[m + 1]? = some (at_ (if jump.isNone then .ready else .done) jump) ∧
          (Z.putObj (m + 1) (at_ (if jump.isNone then .ready else .done) jump)).heap[m]? = some (.deferred (some [])) ∧ KeepsFrom V.heap.size W (Z.putObj (m + 1) (at_ (if jump.isNone then .ready else .done) jump)) ∧ Lie V.heap.size d W (Z.putObj (m + 1) (at_ (if jump.isNone then .ready else .done) jump)) := fun jump Z hk hz => by
        have h3 := hk.same _ _ (by omega) rU (by rw [hat]; rfl)
        have h4 := h3
        rw [hat] at h4
        have h5 := run_endRound (P := P) jump h4
        refine ⟨by rw [hat]; exact h5, h3, World.putObj_heap_same (Array.getElem?_eq_some_iff.1 h3).1, (World.putObj_heap_other (by omega)).trans (hk.same _ _ (Nat.le_refl _) dU rfl), (fU.trans (keepsFrom_up hk (by omega))).trans (keepsFrom_put _ (by omega)), (lU.trans (by rw [sV]; exact hz)).trans (lie_put _ (by omega))⟩
      rintro e a3 Z ⟨hp, hz⟩
      cases e with
      | normal =>
        obtain ⟨k1, k2, k3⟩ := hp
        obtain ⟨r1, r2, r3, r4, r5, r6⟩ := fin none Z k1 hz
        exact ⟨_, _, r1, .inl ⟨rfl, ⟨hI.putObj _ k3 (by omega) r2 (by rw [hat]; rfl), r3, r4⟩, hKt (hKt kU k2) (hKb _ _ _ _ (by omega) r2 (by rw [hat]; rfl) (by rw [hat]; rfl)), r5, r6⟩⟩
      | ret =>
        obtain ⟨k1, k3⟩ := hp
        obtain ⟨r1, r2, r3, r4, r5, r6⟩ := fin (some .ret) Z k1 hz
        exact ⟨_, _, r1, .inr ⟨rfl, ⟨.ret, (hIx _).putObj _ k3 (by omega) r2 (by rw [hat]; rfl), r3, r4⟩, r5, r6⟩⟩
      | exit id =>
        obtain ⟨k1, k3⟩ := hp
        obtain ⟨r1, r2, r3, r4, r5, r6⟩ := fin (some (.exit id)) Z k1 hz
        exact ⟨_, _, r1, .inr ⟨rfl, ⟨.exit id, (hIx _).putObj _ k3 (by omega) r2 (by rw [hat]; rfl), r3, r4⟩, r5, r6⟩⟩
      | goto t =>
        obtain ⟨k1, k3⟩ := hp
        obtain ⟨r1, r2, r3, r4, r5, r6⟩ := fin (some (.goto t)) Z k1 hz
        exact ⟨_, _, r1, .inr ⟨rfl, ⟨.goto t, (hIx _).putObj _ k3 (by omega) r2 (by rw [hat]; rfl), r3, r4⟩, r5, r6⟩⟩
      | panic ch => exact hp.elim
      | outgrown => exact hp.elim
    · -- behind the iterator
      rintro e Z ⟨⟨v, rfl⟩, (⟨xs, hS, hi, hl, hd⟩ | ⟨pre, hSp, c, hi, hl, hd⟩)⟩
      · have hl' := hl
        rw [hat] at hl'
        exact ⟨none, _, run_endLoop (P := P) hl' (by simp), hdone m xs _ (Nat.le_refl _) hS (hI.putObj _ hi (by omega) hl (by rw [hat]; rfl)) ((World.putObj_heap_other (by omega)).trans hd)⟩
      · have hl' := hl
        rw [hat] at hl'
        exact ⟨some c, _, run_endLoop (P := P) hl' (by simp), hstop m c pre _ (Nat.le_refl _) hSp ((hIx c).putObj _ hi (by omega) hl (by rw [hat]; rfl)) ((World.putObj_heap_other (by omega)).trans hd)⟩
end Go.Proofs.YtjkepoalepmjoaaDoor

/- The code of a graph, as plain mathematics. No condition. -/

namespace Go.Proofs.YtjkepoalepmjoaaDoor
open Go Go.RowKit

def cstep (L : List Int) (st : Nat × Nat) (p : Nat × Nat) : Nat × Nat := (st.1 ||| bt L p.1 p.2 * 2 ^ st.2, st.2 + 1)
def crun (L : List Int) (ps : List (Nat × Nat)) : Nat × Nat := ps.foldl (cstep L) (0, 0)
theorem crun_snoc (L : List Int) (ps : List (Nat × Nat)) (p : Nat × Nat) : crun L (ps ++ [p]) = cstep L (crun L ps) p := by simp [crun]
theorem crun_at (L : List Int) (ps : List (Nat × Nat)) : (crun L ps).2 = ps.length := by
  induction ps using snoc_ind with
  | h0 => rfl
  | h1 l x ih => rw [crun_snoc, List.length_append]; show (crun L l).2 + 1 = _; rw [ih]; rfl
theorem bt_le (L : List Int) (v w : Nat) : bt L v w ≤ 1 := by unfold bt; omega
theorem bit_shift {bit k m : Nat} (hb : bit ≤ 1) (hk : k < m) : bit * 2 ^ k < 2 ^ m := by
  have h1 : 2 ^ k < 2 ^ m := Nat.pow_lt_pow_right (by omega) hk
  have h2 : bit * 2 ^ k ≤ 1 * 2 ^ k := Nat.mul_le_mul_right _ hb
  omega
theorem crun_lt (L : List Int) (ps : List (Nat × Nat)) : (crun L ps).1 < 2 ^ ps.length := by
  induction ps using snoc_ind with
  | h0 => show 0 < 2 ^ 0; decide
  | h1 l x ih =>
    rw [crun_snoc, List.length_append]
    show (crun L l).1 ||| bt L x.1 x.2 * 2 ^ (crun L l).2 < 2 ^ (l.length + 1)
    rw [crun_at]
    refine Nat.or_lt_two_pow ?_ (bit_shift (bt_le _ _ _) (by omega))
    exact Nat.lt_of_lt_of_le ih (pow_le _ _ (by omega))
theorem crun_small (L : List Int) (ps : List (Nat × Nat)) (h : ps.length ≤ 15) : (crun L ps).1 < 32768 :=
  Nat.lt_of_lt_of_le (crun_lt L ps) (pow_le _ 15 h)
/-- The code of a list that is a graph. -/
def codeOf (L : List Int) : Nat := (crun L (rows L.length)).1

theorem wrap_shift (bit k p : Nat) (hb : bit ≤ 1) (hk : k < 40) (hp : p = bit * 2 ^ k) : wrap64 ((bit : Int) * 2 ^ k) = (p : Int) := by
  have h1 := bit_shift (m := 40) hb hk
  rw [← hp] at h1
  have e : (bit : Int) * 2 ^ k = (p : Int) := by rw [hp]; simp
  have h2 : (2 : Nat) ^ 40 = 1099511627776 := by decide
  rw [h2] at h1
  rw [e]
  unfold wrap64
  omega
end Go.Proofs.YtjkepoalepmjoaaDoor

/- The model's GraphCode. -/


namespace Go.Proofs.YtjkepoalepmjoaaDoor
open Go.RowKit
set_option linter.unusedVariables false


/-- What one pair's round asks. -/
theorem code_step {L : List Int} (hg : IsGraph L) {x y k : Nat} (hx : x < y) (hy : y < L.length) (ek : (upto y x).length = k) :
    ∃ X bit p q : Nat, L[x]?.getD 0 = (X : Int) ∧ k ≤ 15 ∧ (upto y (x + 1)).length = k + 1 ∧ bits .and .i64 ((X : Int) / 2 ^ y) 1 = (bit : Int) ∧ wrap64 ((bit : Int) * 2 ^ k) = (p : Int) ∧
      bits .or .i64 (((crun L (upto y x)).1 : Nat) : Int) (p : Int) = (q : Int) ∧ (crun L (upto y (x + 1))).1 = q := by
  have h6 := hg.2.1
  have hin := (hg.2.2 x (by omega)).1
  have hX := ent_int hin
  have hXl := ent_lt hin
  have h64 := two_le h6
  have hup := upto_length y x (by omega) (by omega)
  have hst := crun_snoc L (upto y x) (x, y)
  have hat := crun_at L (upto y x)
  have hsm := crun_small L (upto y x) hup
  have hk1 : (upto y (x + 1)).length = k + 1 := by rw [upto_succ, List.length_append, ek]; rfl
  rw [← upto_succ] at hst
  rw [ek] at hup hat
  obtain ⟨bit, eb, hb, f1⟩ := and_facts (ent L x) y (by omega)
  have e1 : bt L x y = bit := by unfold bt; exact eb.symm
  have f2 := wrap_shift bit k _ hb (by omega) rfl
  have hp : bit * 2 ^ k < 2 ^ 16 := bit_shift hb (by omega)
  have hp2 : bit * 2 ^ k < 9223372036854775808 := Nat.lt_trans hp (by decide)
  have f3 := i64_or_nat (crun L (upto y x)).1 (bit * 2 ^ k) (Nat.lt_trans hsm (by decide)) hp2
  refine ⟨ent L x, bit, bit * 2 ^ k, _, hX, hup, hk1, f1, f2, f3, ?_⟩
  rw [hst]
  show (crun L (upto y x)).1 ||| bt L x y * 2 ^ (crun L (upto y x)).2 = _
  rw [hat, e1]

set_option maxHeartbeats 1000000 in
theorem specCode_seen (A : Option Addr) (c : Nat) (L : List Int) (hg : IsGraph L) (w : World) (h : Seen w A L) :
    Calls Tryd.prog 53 #[.slice A L.length c] w (Num w (codeOf L)) := by
  have h1 := hg.1
  have h6 := hg.2.1
  obtain ⟨n, hn⟩ : ∃ n, n = L.length := ⟨_, rfl⟩
  rw [← hn] at h1 h6 ⊢
  have HN := Lib.hid hn
  have H := Lib.hid h
  have HG := Lib.hid hg
  clear h hg hn
  go_enter Tryd.func53, Tryd.ntmps53
  go_wp2
  go_loop [3, 4, 5, 6] (fun r at_ b _ => ∃ y q k : Nat, 1 ≤ y ∧ y ≤ n ∧ b = .int .i64 y ∧ at_ = .int .i64 k ∧ r = .int .i64 q ∧ Hid ((rows y).length = k) ∧ Hid ((crun L (rows y)).1 = q)) (fun _ _ b _ => n - (intOf b).toNat)
  case atStart => exact ⟨1, 0, 0, by omega, h1, rfl, rfl, rfl, Lib.hid rfl, Lib.hid rfl⟩
  case round =>
    obtain ⟨y, q, k, hy1, hyn, rfl, rfl, rfl, hk, hq⟩ := hrel
    by_cases hlt : y < n
    · have hi2 : (y : Int) < (n : Int) := by omega
      go_wp2
      go_loop [3, 4, 6] (fun r at_ a => ∃ x q k : Nat, x ≤ y ∧ a = .int .i64 x ∧ at_ = .int .i64 k ∧ r = .int .i64 q ∧ Hid ((upto y x).length = k) ∧ Hid ((crun L (upto y x)).1 = q)) (fun _ _ a => y - (intOf a).toNat)
      case atStart => exact ⟨0, q, k, Nat.zero_le _, rfl, rfl, rfl, Lib.hid (by rw [upto_zero]; exact hk.out), Lib.hid (by rw [upto_zero]; exact hq.out)⟩
      case round =>
        obtain ⟨x, q2, k2, hxy, rfl, rfl, rfl, hk2, hq2⟩ := hrel
        by_cases hlx : x < y
        · obtain ⟨blk, off, rfl, hbl, hc⟩ := H.out x (by have := HN.out; omega)
          obtain ⟨X, bit, p, q3, eX, hk15, hk3, f1, f2, f3, f4⟩ := code_step HG.out hlx (by have := HN.out; omega) hk2.out
          rw [eX] at hc
          rw [hq2.out] at f3
          have F4 := Lib.hid f4
          have K3 := Lib.hid hk3
          have hi1 : (0 : Int) ≤ (x : Int) ∧ (x : Int) < (n : Int) := by omega
          clear f4 hk3 eX hbl
          go_wp2
          go_round
          case rel => exact ⟨x + 1, q3, k2 + 1, by omega, by go_num, by go_num, rfl, K3, F4⟩
          case measure => simp [intOf]; omega
        · have hxe : x = y := by omega
          subst hxe
          go_wp2
          go_round
          case rel => exact ⟨x + 1, q2, k2, by omega, by omega, by go_num, rfl, rfl, Lib.hid (by rw [← upto_end]; exact hk2.out), Lib.hid (by rw [← upto_end]; exact hq2.out)⟩
          case measure => simp [intOf]; omega
    · have hye : y = n := by omega
      subst hye
      go_wp2
      go_ret
      exact ⟨ret_int (by rw [← hq.out, HN.out]; rfl), rfl⟩
end Go.Proofs.YtjkepoalepmjoaaDoor

/- The program's iterator over the edges of a graph. -/




namespace Go.Proofs.YtjkepoalepmjoaaDoor
open Go.RowKit Go.Shelf
attribute [local go_sem] Oper.semAt_some
set_option linter.unusedVariables false

/-- What a round over the edges keeps: the graph's box, and the graph. -/
def KeepG (B : Nat) (A : Option Addr) (c n : Nat) (L : List Int) (X Y : World) : Prop :=
  (Boxed X B 40 (.slice A n c) → Boxed Y B 40 (.slice A n c)) ∧ (Seen X A L → Seen Y A L)
/-- The edges among some pairs. -/
def edgesOf {m : Nat} (L : List Int) (l : List (Pr m)) : List (Pr m) := l.filter (fun x => bt L x.1.1 x.1.2 == 1)

theorem edgesOf_snoc {m : Nat} (L : List Int) (l : List (Pr m)) (x : Pr m) : edgesOf L (l ++ [x]) = edgesOf L l ++ (if bt L x.1.1 x.1.2 = 1 then [x] else []) := by
  unfold edgesOf
  rw [List.filter_append]
  by_cases h : bt L x.1.1 x.1.2 = 1 <;> simp [h]
theorem edgesOf_length {m : Nat} (L : List Int) (l : List (Pr m)) : (edgesOf L l).length ≤ l.length := List.length_filter_le _ _
theorem seen_own {β : Type} (A : Option Addr) (L : List Int) : Own (fun (_ : β) W => Seen W A L) := fun s X Y row hs hg hr k hk => by
  obtain ⟨b, off, hA, hlt, hc⟩ := hs k hk
  have e : Y.heap[b]? = X.heap[b]? := hg.block b hlt (fun e => by
    obtain ⟨o, ho, hco⟩ := hr b e.symm
    cases o <;> simp [World.cell?, ho, Obj.isCells] at hc hco)
  exact ⟨b, off, hA, Nat.lt_of_lt_of_le hlt hg.size, by unfold World.cell? at hc ⊢; dsimp only at hc ⊢; rw [e]; exact hc⟩
theorem ownFrom_up {β : Type} {B B' : Nat} {I : β → World → Prop} (h : OwnFrom B I) (hb : B ≤ B') : OwnFrom B' I := fun s X Y row hs hg hr => h s X Y row hs hg (fun r e => ⟨Nat.le_trans hb (hr r e).1, (hr r e).2⟩)
theorem ownFrom_map {β γ : Type} {B : Nat} {I : β → World → Prop} (h : OwnFrom B I) (f : γ → β) : OwnFrom B (fun s W => I (f s) W) := fun s X Y row hs hg hr => h (f s) X Y row hs hg hr

theorem roundIn_wide {n m : Nat} {P : Program} {l l2 : Nat} {f : FuncId} {tmps : Array Value} {assign body : Code} {w : World} {R : Ending → World → Prop} (h : RoundIn Fence.wide n P l f tmps assign body w R) : RoundIn (Fence.wide.inRound l2) m P l f tmps assign body w R :=
  ⟨h.1, fun c cs hr => h.2 c cs (by simp [Fence.room, Fence.wide])⟩

set_option maxRecDepth 100000 in
set_option maxHeartbeats 2000000 in
theorem edges_stops (A : Option Addr) (c : Nat) (L : List Int) (n : Nat) (hn : n = L.length) (hg : IsGraph L) (B : Nat) (w : World) (hB : B < w.heap.size) (hb : Boxed w B 40 (.slice A n c)) (hs : Seen w A L) :
    Outer 2 Fence.wide 5 Tryd.prog 93 #[.pointer (some ⟨B, 0, none⟩)] (encP n) (KeepG B A c n L) (fun xs => ∃ ys : List (Pr n), vals ys = rows n ∧ xs = edgesOf L ys) (fun _ => True) 15 w := fun l J Jx W hbW hJ hJx hY h0 => by
  have h1 := hg.1
  have h6 := hg.2.1
  obtain ⟨blk, off, hA0, hbl0, _⟩ := hs 0 (by omega)
  have hb1 : Boxed W B 40 (.slice A n c) := (hbW.block B hB).trans hb
  have hs1 : Seen W A L := hs.below hbW
  have HY := Lib.hid hY
  have HG := Lib.hid hg
  have HJ := Lib.hid hJ
  have HX := Lib.hid hJx
  clear hY hJ hJx hbW hg
  subst hA0
  rw [← hn] at h1 h6
  have HN := Lib.hid hn
  clear hn
  have x0 : ∀ o, (W.alloc o).cell? ⟨B, 0, none⟩ = some (.slice (some ⟨blk, off, none⟩) n c) := fun o => (hb1.alloc o).cell
  refine callsIn_of_wp_marks Tryd.func93 rfl trivial ?_ rfl
  simp only [Tryd.ntmps93, List.size_toArray, List.length_cons, List.length_nil, Nat.reduceAdd, Nat.reduceSub, Array.replicate_succ, Array.replicate_zero, List.push_toArray, List.append_toArray, List.nil_append, List.cons_append]
  gi_wp2_with (refine ⟨trivial, ?_⟩; gi_at_call 82; refine (callsIn_wide.2 (pairs_any n _)).mono ?_; rintro e w' ⟨rfl, rfl⟩)
  obtain ⟨W1, e1⟩ : ∃ W1, W1 = (W.alloc (.cells #[.func (.yield l) #[] #[]] 47)).alloc (.cells #[.int .i64 n] 3) := ⟨_, rfl⟩
  have s1 : W1.heap.size = W.heap.size + 2 := by rw [e1]; simp
  have i1 : J [] W1 := by rw [e1]; exact HJ.out.alloc _ (HJ.out.alloc _ h0)
  have y1 : Boxed W1 W.heap.size 47 (.func (.yield l) #[] #[]) := by rw [e1]; exact (Boxed.new W _ _).alloc _
  have g1 : Boxed W1 B 40 (.slice (some ⟨blk, off, none⟩) n c) := by rw [e1]; exact (hb1.alloc _).alloc _
  have q1 : Seen W1 (some ⟨blk, off, none⟩) L := hs1.below (by rw [e1]; exact ((Below.refl _ W).alloc (Nat.le_refl _) _).alloc (by simp) _)
  have m1 : W1.cell? ⟨W.heap.size + 1, 0, none⟩ = some (.int .i64 n) := by
    rw [e1]; have h := Boxed.new (W.alloc (.cells #[.func (.yield l) #[] #[]] 47)) 3 (.int .i64 n); rw [World.size_alloc] at h; exact h.cell
  rw [← e1]
  clear e1 x0
  obtain ⟨M, eM⟩ : ∃ M, M = W.heap.size := ⟨_, rfl⟩
  have hBM : B < M := by rw [eM]; exact hb1.lt
  rw [← eM] at s1 y1 m1 HJ HX HY ⊢
  clear eM
  refine wpIn_rangeFunc_ownG (α := Pr n) rfl (by omega) (gf := 92) (lb := #[.pointer (some ⟨M + 1, 0, none⟩)]) rfl trivial (enters_of Tryd.func92 (by kernel_rfl) rfl)
    (pairs_stops Fence.wide _ trivial rfl (by omega) (M + 1) n h6 W1 (by omega) m1) (fun _ _ => trivial) (fun _ _ _ _ _ _ _ _ => trivial) (Below.refl _ _) (fun _ => rfl)
    (fun pre Z => J (edgesOf L pre) Z ∧ (Boxed Z M 47 (.func (.yield l) #[] #[]) ∧ (Boxed Z B 40 (.slice (some ⟨blk, off, none⟩) n c) ∧ Seen Z (some ⟨blk, off, none⟩) L)))
    (fun cd pre Z => cd = .ret ∧ Jx (edgesOf L pre) Z)
    (OwnFrom.and (ownFrom_map (ownFrom_up HJ.out (by omega)) _) (OwnFrom.and (Own.from (boxed_own _ _ _) _) (OwnFrom.and (Own.from (boxed_own _ _ _) _) (Own.from (seen_own _ _) _))))
    (fun cd => OwnFrom.and (ownFrom_pure _ _) (ownFrom_map (ownFrom_up HX.out (by omega)) _))
    ⟨i1, y1, g1, q1⟩
    (fun x => { tmps := #[.func (.yield l) #[] #[], .pointer (some ⟨B, 0, none⟩), .pointer (some ⟨M, 0, none⟩), .int .i64 (x.1.1 : Int), .int .i64 (x.1.2 : Int), .slice (some ⟨blk, off, none⟩) n c, .int .i64 n,
      .func (.func 92) #[] #[.pointer (some ⟨M + 1, 0, none⟩)], .int .i64 (x.1.1 : Int), .int .i64 (x.1.2 : Int), undef, undef, undef, undef, undef, undef, undef, undef, undef, undef, undef], defers := [] }) ?assign ?body ?done ?stop
  case assign =>
    intro l x W K hK
    gi_wp2
    exact hK
  case body =>
    rintro l2 pre x Wr ⟨hj, hy, hgr, hse⟩ hlen
    obtain ⟨⟨u, v⟩, hu, hv⟩ := x
    dsimp only at hu hv ⊢
    have hsn := edgesOf_snoc L pre (⟨(u, v), hu, hv⟩ : Pr n)
    dsimp only at hsn
    obtain ⟨blk1, off1, hA1, hbl1, hc1⟩ := hse u (by have := HN.out; omega)
    have e1 : blk = blk1 ∧ off = off1 := by injection hA1 with e; injection e with e1 e2; exact ⟨e1, e2⟩
    obtain ⟨rfl, rfl⟩ := e1
    have hin := (HG.out.2.2 u (by have := HN.out; omega)).1
    have hX := ent_int hin
    have hXl := ent_lt hin
    have h64 := two_le (n := L.length) (by have := HN.out; omega)
    unfold bt at hsn
    obtain ⟨X, eX⟩ : ∃ X, X = ent L u := ⟨_, rfl⟩
    rw [← eX] at hX hXl hsn
    rw [hX] at hc1
    have hXs : X < 1048576 := by omega
    have hvs40 : v < 40 := by omega
    have hun : u < n := by omega
    have zg := hgr.cell
    have zy := hy.cell
    have hl15 : (edgesOf L pre).length < 15 := by have := edgesOf_length L pre; omega
    have HSN := Lib.hid hsn
    clear hin hX hXl h64 eX hsn hA1 hlen
    by_cases hbit : X / 2 ^ v % 2 = 1
    · have hbb : (X / 2 ^ v % 2 == 1) = true := by simp [hbit]
      have hs2 : edgesOf L (pre ++ [(⟨(u, v), hu, hv⟩ : Pr n)]) = edgesOf L pre ++ [(⟨(u, v), hu, hv⟩ : Pr n)] := by rw [HSN.out, if_pos hbit]
      have HS2 := Lib.hid hs2
      clear hbit hs2
      obtain ⟨fn, tmps, assign, body, hyy, hR⟩ := HY.out (edgesOf L pre) ⟨(u, v), hu, hv⟩ Wr hj hl15
      dsimp only [encP] at hyy
      gi_wp2_with (refine ⟨trivial, ?_⟩; gi_at_call 81; refine (CallsIn.inRound l2 (callsIn_wide.2 (edge_any blk off n c u v X _ hXs hun hvs40 hc1))).mono ?_; rw [hbb]; rintro e w' ⟨rfl, rfl⟩)
      refine (roundIn_wide hR).mono ?_
      rintro e W3 (⟨rfl, a1, a2, a3, a4⟩ | ⟨rfl, a1, a3, a4⟩)
      · gi_wp2
        refine ⟨keepsFrom_up a3 (by omega), trivial, ?_, a4 M _ (Nat.le_refl _) (by omega) hy, a2.1 hgr, a2.2 hse⟩
        rw [HS2.out]; exact a1
      · gi_wp2
        refine ⟨keepsFrom_up a3 (by omega), rfl, ?_⟩
        rw [HS2.out]; exact a1
    · have hbb : (X / 2 ^ v % 2 == 1) = false := by simp [hbit]
      have hs2 : edgesOf L (pre ++ [(⟨(u, v), hu, hv⟩ : Pr n)]) = edgesOf L pre := by rw [HSN.out, if_neg hbit, List.append_nil]
      have HS2 := Lib.hid hs2
      clear hbit hs2
      gi_wp2_with (refine ⟨trivial, ?_⟩; gi_at_call 81; refine (CallsIn.inRound l2 (callsIn_wide.2 (edge_any blk off n c u v X _ hXs hun hvs40 hc1))).mono ?_; rw [hbb]; rintro e w' ⟨rfl, rfl⟩)
      refine ⟨by simp, ?_⟩
      gi_wp2
      refine ⟨KeepsFrom.refl _ _, trivial, ?_, hy, hgr, hse⟩
      rw [HS2.out]; exact hj
  case done =>
    rintro D xs Z hD hS ⟨hj, hy, hgr, hse⟩ hK
    gi_wp2
    refine ⟨by simp, .inl ⟨_, _, rfl, run_takeDeferred hK, ?_⟩⟩
    refine ⟨_, results_none rfl _ _ _, ?_⟩
    exact ⟨⟨_, rfl⟩, .inl ⟨_, ⟨xs, hS, rfl⟩, HJ.out.putObj _ hj (by omega) hK rfl⟩⟩
  case stop =>
    rintro D cd pre Z hD _ ⟨rfl, hj⟩ hK
    gi_wp2
    refine ⟨by simp, .inl ⟨_, _, rfl, run_takeDeferred hK, ?_⟩⟩
    refine ⟨_, results_none rfl _ _ _, ?_⟩
    exact ⟨⟨_, rfl⟩, .inr ⟨_, trivial, HX.out.putObj _ hj (by omega) hK rfl⟩⟩
end Go.Proofs.YtjkepoalepmjoaaDoor

/- The members of a code are the edges. Plain mathematics, no condition. -/

namespace Go.Proofs.YtjkepoalepmjoaaDoor
open Go Go.RowKit

/-- The ones among the last places. -/
def pcf : Nat → Nat → Nat
  | 0, _ => 0
  | f + 1, x => x % 2 + pcf f (x / 2)
theorem pcf_zero (f : Nat) : pcf f 0 = 0 := by
  induction f with
  | zero => rfl
  | succ f ih => show 0 % 2 + pcf f (0 / 2) = 0; rw [Nat.zero_div, ih]
theorem pcf_le (f x : Nat) : pcf f x ≤ f := by
  induction f generalizing x with
  | zero => exact Nat.le_refl _
  | succ f ih => show x % 2 + pcf f (x / 2) ≤ f + 1; have := ih (x / 2); omega
theorem pcf_add (f k q b : Nat) (hk : k < f) (hq : q < 2 ^ k) (hb : b ≤ 1) : pcf f (q + b * 2 ^ k) = pcf f q + b := by
  induction f generalizing k q with
  | zero => omega
  | succ f ih =>
    show (q + b * 2 ^ k) % 2 + pcf f ((q + b * 2 ^ k) / 2) = q % 2 + pcf f (q / 2) + b
    cases k with
    | zero =>
      have h0 : q = 0 := by simpa using hq
      subst h0
      have h1 : (0 + b * 2 ^ 0) = b := by simp
      have h2 : b / 2 = 0 := by omega
      rw [h1, h2, Nat.zero_div, pcf_zero]
      omega
    | succ k =>
      obtain ⟨p, hp⟩ : ∃ p, p = b * 2 ^ k := ⟨_, rfl⟩
      have e : b * 2 ^ (k + 1) = 2 * p := by rw [hp, Nat.pow_succ, ← Nat.mul_assoc]; omega
      have h1 : (q + 2 * p) % 2 = q % 2 := by omega
      have h2 : (q + 2 * p) / 2 = q / 2 + p := by omega
      have h3 : q / 2 < 2 ^ k := by rw [Nat.pow_succ] at hq; omega
      rw [e, h1, h2, hp, ih k (q / 2) (by omega) h3]
      omega

theorem or_add (q b k : Nat) (hq : q < 2 ^ k) : q ||| b * 2 ^ k = q + b * 2 ^ k := by
  have h := Nat.two_pow_add_eq_or_of_lt hq b
  rw [Nat.mul_comm b, Nat.or_comm, ← h]
  omega

/-- The edges among some pairs. -/
def edgesIn (L : List Int) (ps : List (Nat × Nat)) : List (Nat × Nat) := ps.filter (fun p => bt L p.1 p.2 == 1)
theorem pc_crun (L : List Int) (ps : List (Nat × Nat)) (h : ps.length ≤ 15) : pcf 15 (crun L ps).1 = (edgesIn L ps).length := by
  induction ps using snoc_ind with
  | h0 => show pcf 15 0 = 0; exact pcf_zero 15
  | h1 l x ih =>
    rw [List.length_append] at h
    have hl : l.length < 15 := by simp at h; omega
    rw [crun_snoc]
    show pcf 15 ((crun L l).1 ||| bt L x.1 x.2 * 2 ^ (crun L l).2) = _
    rw [crun_at, or_add _ _ _ (crun_lt L l), pcf_add 15 l.length _ _ hl (crun_lt L l) (bt_le _ _ _), ih (by omega)]
    unfold edgesIn
    rw [List.filter_append, List.length_append]
    have := bt_le L x.1 x.2
    by_cases h1 : bt L x.1 x.2 = 1
    · simp [h1]
    · have h0 : bt L x.1 x.2 = 0 := by omega
      simp [h0]
def edgesN (L : List Int) : Nat := pcf 15 (codeOf L)
theorem edgesN_le (L : List Int) : edgesN L ≤ 15 := pcf_le _ _
end Go.Proofs.YtjkepoalepmjoaaDoor

/- The model's number of edges of a code. -/



namespace Go.Proofs.YtjkepoalepmjoaaDoor
open Go.RowKit
set_option linter.unusedVariables false
set_option maxRecDepth 100000

set_option maxHeartbeats 400000 in
theorem size_code (x : Nat) (hx : x < 32768) (w : World) : Calls Tryd.prog 86 #[.int .i64 x] w (Num w (pcf 15 x)) := by
  go_enter Tryd.func86, Tryd.ntmps86
  go_wp2
  go_loop [0, 3] (fun s r => ∃ y q f : Nat, y < 32768 ∧ q + f ≤ 15 ∧ s = .int .i64 y ∧ r = .int .i64 q ∧ Hid (y < 2 ^ f ∧ q + pcf f y = pcf 15 x)) (fun s _ => (intOf s).toNat)
  case atStart => exact ⟨x, 0, 15, hx, by omega, rfl, rfl, Lib.hid ⟨hx, by omega⟩⟩
  case round =>
    obtain ⟨y, q, f, hy, hq, rfl, rfl, hs⟩ := hrel
    by_cases h0 : 0 < y
    · have hz : decide ((0 : Int) < (y : Int)) = true := by simpa using h0
      have hb := bit_of y 0 (by omega)
      simp only [Nat.pow_zero, Nat.div_one, Int.pow_zero, Int.ediv_one] at hb
      obtain ⟨g, eg⟩ : ∃ g, f = g + 1 := by
        cases f with
        | zero => have := hs.out.1; omega
        | succ g => exact ⟨g, rfl⟩
      subst eg
      obtain ⟨bit, eb⟩ : ∃ bit, bit = y % 2 := ⟨_, rfl⟩
      rw [← eb] at hb
      have hbit : bit ≤ 1 := by omega
      obtain ⟨z, ez⟩ : ∃ z, z = y / 2 := ⟨_, rfl⟩
      have hzy : z < y := by omega
      have hd : (y : Int) / 2 = (z : Int) := by omega
      have st : z < 2 ^ g ∧ (q + bit) + pcf g z = pcf 15 x := by
        obtain ⟨s1, s2⟩ := hs.out
        rw [Nat.pow_succ] at s1
        refine ⟨by omega, ?_⟩
        rw [← s2]
        show _ = q + (y % 2 + pcf g (y / 2))
        rw [← eb, ← ez]
        omega
      have ST := Lib.hid st
      clear st eb ez hs
      go_wp2
      go_round
      case rel => exact ⟨z, q + bit, g, by omega, by omega, rfl, by go_num, ST⟩
      case measure => simp [intOf]; omega
    · have hz : decide ((0 : Int) < (y : Int)) = false := by simp; omega
      have hy0 : y = 0 := by omega
      subst hy0
      go_wp2
      go_ret
      exact ⟨ret_int (by have h1 := hs.out.2; rw [pcf_zero] at h1; omega), rfl⟩

end Go.Proofs.YtjkepoalepmjoaaDoor

/- The model's number of edges of a list that is a graph. -/



namespace Go.Proofs.YtjkepoalepmjoaaDoor
open Go.RowKit
set_option linter.unusedVariables false
set_option maxRecDepth 100000

theorem specEdges_seen (A : Option Addr) (c : Nat) (L : List Int) (hg : IsGraph L) (w : World) (h : Seen w A L) :
    Calls Tryd.prog 57 #[.slice A L.length c] w (Num w (edgesN L)) := by
  have H := Lib.hid (specCode_seen A c L hg w h)
  have hx : codeOf L < 32768 := crun_small L _ (rows_length L.length hg.2.1)
  have hu : edgesN L = pcf 15 (codeOf L) := rfl
  rw [hu]
  obtain ⟨x, ex⟩ : ∃ x, x = codeOf L := ⟨_, rfl⟩
  rw [← ex] at H hx ⊢
  clear hg h ex hu
  go_enter Tryd.func57, Tryd.ntmps57
  go_wp2_with fail
  refine H.out.mono ?_
  rintro e w1 ⟨rfl, rfl⟩
  go_wp2_with fail
  refine (size_code x hx _).mono ?_
  rintro e w2 ⟨rfl, rfl⟩
  go_wp2
  go_ret
  exact ⟨rfl, rfl⟩

end Go.Proofs.YtjkepoalepmjoaaDoor

/- The program's code of a graph, by a range over the pairs. -/




namespace Go.Proofs.YtjkepoalepmjoaaDoor
open Go.RowKit Go.Shelf
attribute [local go_sem] Oper.semAt_some
set_option linter.unusedVariables false
set_option maxRecDepth 100000

/-- How a call that tells a number ends. -/
def NumB (w : World) (x : Nat) (e : Ending) (w' : World) : Prop := e = .returned (.int .i64 (x : Nat)) ∧ Below w.heap.size w w'

/-- Between two rounds of code: the graph's box, the number so far, the place. -/
def CodeI (n₀ : Nat) (S : Value) (L : List Int) (m : Nat) (pre : List (Pr m)) (W : World) : Prop :=
  Boxed W n₀ 40 S ∧ Boxed W (n₀ + 1) 3 (.int .i64 ((crun L (vals pre)).1 : Nat)) ∧ Boxed W (n₀ + 1 + 1) 3 (.int .i64 (pre.length : Nat))
theorem codeI_own (n₀ : Nat) (S : Value) (L : List Int) (m : Nat) : Own (CodeI n₀ S L m) := fun s X Y row hs hg hr =>
  ⟨boxed_own _ _ (fun _ : Unit => _) () X Y row hs.1 hg hr, boxed_own _ _ (fun _ : Unit => _) () X Y row hs.2.1 hg hr, boxed_own _ _ (fun _ : Unit => _) () X Y row hs.2.2 hg hr⟩

set_option maxRecDepth 100000 in
set_option maxHeartbeats 2000000 in
theorem implCode_in (A : Option Addr) (c : Nat) (L : List Int) (hg : IsGraph L) (w : World) (h : Seen w A L) :
    CallsIn Fence.wide 5 Tryd.prog 50 #[.slice A L.length c] w (NumB w (codeOf L)) := by
  have h1 := hg.1
  have h6 := hg.2.1
  obtain ⟨blk, off, hA0, hbl0, _⟩ := h 0 (by omega)
  obtain ⟨n, hn⟩ : ∃ n, n = L.length := ⟨_, rfl⟩
  rw [← hn] at h1 h6 ⊢
  subst hA0
  have HN := Lib.hid hn
  have H := Lib.hid h
  have HG := Lib.hid hg
  clear h hg hn
  refine callsIn_of_wp_marks Tryd.func50 rfl trivial ?_ rfl
  simp only [Tryd.ntmps50, List.size_toArray, List.length_cons, List.length_nil, Nat.reduceAdd, Nat.reduceSub, Array.replicate_succ, Array.replicate_zero, List.push_toArray, List.append_toArray, List.nil_append, List.cons_append]
  gi_wp2_with (refine ⟨trivial, ?_⟩; gi_at_call 82; refine (callsIn_wide.2 (pairs_any n _)).mono ?_; rintro e w' ⟨rfl, rfl⟩)
  obtain ⟨W, eW⟩ : ∃ W, W = (((w.alloc (.cells #[.slice (some ⟨blk, off, none⟩) n c] 40)).alloc (.cells #[.int .i64 0] 3)).alloc (.cells #[.int .i64 0] 3)).alloc (.cells #[.int .i64 n] 3) := ⟨_, rfl⟩
  have sW : W.heap.size = w.heap.size + 1 + 1 + 1 + 1 := by rw [eW]; simp
  have hBW : Below w.heap.size w W := by rw [eW]; exact ((((Below.refl _ w).alloc (Nat.le_refl _) _).alloc (by simp) _).alloc (by simp; omega) _).alloc (by simp; omega) _
  have b0 : Boxed W w.heap.size 40 (.slice (some ⟨blk, off, none⟩) n c) := by rw [eW]; exact (((Boxed.new w _ _).alloc _).alloc _).alloc _
  have b1 : Boxed W (w.heap.size + 1) 3 (.int .i64 0) := by
    rw [eW]; have h := Boxed.new (w.alloc (.cells #[.slice (some ⟨blk, off, none⟩) n c] 40)) 3 (.int .i64 0); rw [World.size_alloc] at h; exact (h.alloc _).alloc _
  have b2 : Boxed W (w.heap.size + 1 + 1) 3 (.int .i64 0) := by
    rw [eW]; have h := Boxed.new ((w.alloc (.cells #[.slice (some ⟨blk, off, none⟩) n c] 40)).alloc (.cells #[.int .i64 0] 3)) 3 (.int .i64 0); rw [World.size_alloc, World.size_alloc] at h; exact h.alloc _
  have b3 : W.cell? ⟨w.heap.size + 1 + 1 + 1, 0, none⟩ = some (.int .i64 n) := by
    rw [eW]; have h := Boxed.new (((w.alloc (.cells #[.slice (some ⟨blk, off, none⟩) n c] 40)).alloc (.cells #[.int .i64 0] 3)).alloc (.cells #[.int .i64 0] 3)) 3 (.int .i64 n); rw [World.size_alloc, World.size_alloc, World.size_alloc] at h; exact h.cell
  rw [← eW]
  clear eW
  obtain ⟨n₀, en⟩ : ∃ n₀, n₀ = w.heap.size := ⟨_, rfl⟩
  rw [← en] at sW hBW b0 b1 b2 b3 hbl0 ⊢
  have EN := Lib.hid en
  have SW := Lib.hid sW
  have hle : n₀ ≤ w.heap.size := by omega
  have hleW : n₀ + 1 + 1 + 1 < W.heap.size := by omega
  clear en sW
  refine wpIn_rangeFunc_ownF (α := Pr n) rfl (by omega) (gf := 92) (lb := #[.pointer (some ⟨n₀ + 1 + 1 + 1, 0, none⟩)]) rfl trivial (enters_of Tryd.func92 (by kernel_rfl) rfl)
    (pairs_stops Fence.wide _ trivial rfl (by omega) (n₀ + 1 + 1 + 1) n h6 W (by omega) b3) (fun _ _ => trivial) (fun _ _ _ _ _ _ _ _ => trivial) (Below.refl _ _) (fun _ => rfl)
    (fun pre W => CodeI n₀ (.slice (some ⟨blk, off, none⟩) n c) L n pre W ∧ Below n₀ w W) (fun _ _ _ => False)
    (OwnFrom.and (Own.from (codeI_own _ _ _ _) _) (ownFrom_below hle (by omega))) (fun _ _ _ _ _ hs _ _ => hs)
    ⟨⟨b0, b1, b2⟩, hBW⟩
    (fun x => { tmps := #[.slice (some ⟨blk, off, none⟩) n c, .pointer (some ⟨n₀, 0, none⟩), .int .i64 0, .pointer (some ⟨n₀ + 1, 0, none⟩), .pointer (some ⟨n₀ + 1 + 1, 0, none⟩), .int .i64 (x.1.1 : Int), .int .i64 (x.1.2 : Int), .slice (some ⟨blk, off, none⟩) n c, .int .i64 n,
      .func (.func 92) #[] #[.pointer (some ⟨n₀ + 1 + 1 + 1, 0, none⟩)], .int .i64 (x.1.1 : Int), .int .i64 (x.1.2 : Int), undef, undef, undef, undef, undef, undef, undef, undef, undef, undef, undef], defers := [] }) ?assign ?body ?done ?stop
  case assign =>
    intro l x W K hK
    gi_wp2
    exact hK
  case body =>
    rintro l pre x Wr ⟨⟨c0, c1, c2⟩, hB⟩ hlen
    obtain ⟨⟨u, v⟩, hu, hv⟩ := x
    dsimp only at hu hv ⊢
    obtain ⟨k, ek⟩ : ∃ k, k = pre.length := ⟨_, rfl⟩
    have hk1 : (pre ++ [(⟨(u, v), hu, hv⟩ : Pr n)]).length = k + 1 := by rw [List.length_append, ek]; rfl
    have hst := crun_snoc L (vals pre) (u, v)
    have hat := crun_at L (vals pre)
    have hsm := crun_small L (vals pre) (by rw [vals_length]; omega)
    have hvs := vals_snoc pre (⟨(u, v), hu, hv⟩ : Pr n)
    dsimp only at hvs
    rw [← hvs] at hst
    rw [vals_length, ← ek] at hat
    rw [← ek] at c2 hlen
    obtain ⟨q, eq⟩ : ∃ q, q = (crun L (vals pre)).1 := ⟨_, rfl⟩
    rw [← eq] at c1 hsm
    obtain ⟨blk1, off1, hA1, hbl1, hc1⟩ := H.out u (by have := HN.out; omega)
    have e1 : blk = blk1 ∧ off = off1 := by injection hA1 with e; injection e with e1 e2; exact ⟨e1, e2⟩
    obtain ⟨rfl, rfl⟩ := e1
    have hin := (HG.out.2.2 u (by have := HN.out; omega)).1
    have hX := ent_int hin
    have hXl := ent_lt hin
    have h64 := two_le (n := L.length) (by have := HN.out; omega)
    obtain ⟨X, eX⟩ : ∃ X, X = ent L u := ⟨_, rfl⟩
    rw [← eX] at hX hXl
    rw [hX] at hc1
    have hcu : Wr.cell? ⟨blk, off + u, none⟩ = some (.int .i64 X) := (hB.cell (p := ⟨blk, off + u, none⟩) hbl0).trans hc1
    have hXs : X < 1048576 := by omega
    have hvs40 : v < 40 := by omega
    have hun : u < n := by omega
    have hq2 : (crun L (vals (pre ++ [(⟨(u, v), hu, hv⟩ : Pr n)]))).1 = q ||| (X / 2 ^ v % 2) * 2 ^ k := by
      rw [hst]
      show (crun L (vals pre)).1 ||| bt L u v * 2 ^ (crun L (vals pre)).2 = _
      rw [hat, ← eq]
      unfold bt
      rw [← eX]
    have HK := Lib.hid hk1
    have HQ := Lib.hid hq2
    have C0 := Lib.hid c0
    have C1 := Lib.hid c1
    have C2 := Lib.hid c2
    have z0 := c0.cell
    have z1 := c1.cell
    have z2 := c2.cell
    have y1 := c1.frozen
    have y2 := c2.frozen
    have w1 := wrap_pow k (by omega)
    obtain ⟨p, ep⟩ : ∃ p, p = 2 ^ k := ⟨_, rfl⟩
    have hp : p < 2 ^ 15 := by rw [ep]; exact Nat.pow_lt_pow_right (by omega) hlen
    rw [← ep] at w1
    have w2 : IntKind.i64.wrap ((2 : Int) ^ k) = (p : Int) := by rw [IntKind.wrap_i64]; unfold wrap64 at w1; exact w1
    have w3 := i64_or_nat q p (Nat.lt_trans hsm (by decide)) (Nat.lt_trans hp (by decide))
    have EP := Lib.hid ep
    clear hk1 hq2 c0 c1 c2 hst hat hvs ek eq hA1 hbl1 hc1 hin hX hXl h64 eX ep hp hsm
    by_cases hbit : X / 2 ^ v % 2 = 1
    · have hbb : (X / 2 ^ v % 2 == 1) = true := by simp [hbit]
      have HBT := Lib.hid hbit
      clear hbit
      have hmx : Tryd.prog.follows .mixedOrders = true := by kernel_rfl
      gi_wp2_with (refine ⟨trivial, ?_⟩; gi_at_call 81; refine (CallsIn.inRound l (callsIn_wide.2 (edge_any blk off n c u v X _ hXs hun hvs40 hcu))).mono ?_; rw [hbb]; rintro e w' ⟨rfl, rfl⟩)
      gi_region_with_o (fail)
      all_goals gi_wp2
      all_goals (try go_bits)
      all_goals
        refine ⟨((KeepsOthers.setCell _ _ _).trans (KeepsOthers.setCell _ _ _)).trans (KeepsOthers.drew _), trivial, ⟨(C0.out.other (by omega) _).other (by omega) _, ?_, ?_⟩, ((hB.setCell (p := ⟨n₀ + 1, 0, none⟩) (by show n₀ ≤ n₀ + 1; omega) _).setCell (p := ⟨n₀ + 1 + 1, 0, none⟩) (by show n₀ ≤ n₀ + 1 + 1; omega) _).drew⟩
        · rw [HQ.out, HBT.out, Nat.one_mul, ← EP.out]; exact (C1.out.set _).other (by omega) _
        · rw [HK.out]; exact (C2.out.other (by omega) _).set _
    · have hb0 : X / 2 ^ v % 2 = 0 := by omega
      have hbb : (X / 2 ^ v % 2 == 1) = false := by simp [hb0]
      have HBT := Lib.hid hb0
      clear hbit hb0
      gi_wp2_with (refine ⟨trivial, ?_⟩; gi_at_call 81; refine (CallsIn.inRound l (callsIn_wide.2 (edge_any blk off n c u v X _ hXs hun hvs40 hcu))).mono ?_; rw [hbb]; rintro e w' ⟨rfl, rfl⟩)
      refine ⟨KeepsOthers.setCell _ _ _, trivial, ⟨C0.out.other (by omega) _, ?_, ?_⟩, hB.setCell (p := ⟨n₀ + 1 + 1, 0, none⟩) (by show n₀ ≤ n₀ + 1 + 1; omega) _⟩
      · rw [HQ.out, HBT.out, Nat.zero_mul, Nat.or_zero]; exact C1.out.other (by omega) _
      · rw [HK.out]; exact C2.out.set _
  case done =>
    rintro D xs Wr hD hS ⟨⟨c0, c1, c2⟩, hB⟩ hK
    have z1 := c1.cell
    have HS := Lib.hid hS
    clear hS
    gi_wp2
    refine ⟨by simp, .inl ⟨_, _, rfl, run_takeDeferred hK, ?_⟩⟩
    refine ⟨_, results_tmp rfl _ _ _, ?_⟩
    refine ⟨?_, ?_⟩
    · unfold codeOf
      rw [← HN.out, ← HS.out]
      rfl
    · rw [← EN.out]
      exact hB.trans (belowK_b (w := w) hle Wr D _ _ (by have := EN.out; omega) hK rfl rfl)
  case stop =>
    rintro D cd pre W _ _ h _
    exact h.elim
end Go.Proofs.YtjkepoalepmjoaaDoor

/- The program's code of a graph, by a range over the pairs. -/





namespace Go.Proofs.YtjkepoalepmjoaaDoor
open Go.RowKit Go.Shelf
attribute [local go_sem] Oper.semAt_some
set_option linter.unusedVariables false

/-- How a call that tells a number and true ends. -/
def NumOk (w : World) (x : Nat) (ok : Bool) (e : Ending) (w' : World) : Prop := e = .returned (.tuple #[.int .i64 (x : Nat), .bool ok]) ∧ Below w.heap.size w w'

theorem specGraphCode_yes (B : Nat) (v : Value) (L : List Int) (hg : IsGraph L) (w : World) (h : Row w B v L) :
    Calls Tryd.prog 20 #[v] w (NumOk w (codeOf L) true) := by
  have H1 := Lib.hid (specIn_any B v L true ⟨fun _ => hg, fun _ => rfl⟩ w h)
  obtain ⟨A, c, rfl, hs⟩ := h.seen
  have H2 := Lib.hid (fun w hs => specCode_seen A c L hg w hs)
  clear hg h
  go_enter Tryd.func20, Tryd.ntmps20
  go_wp2_with fail
  refine H1.out.mono ?_
  rintro e w1 ⟨rfl, d, rfl⟩
  go_wp2_with fail
  refine (H2.out (w.drewN d) hs).mono ?_
  rintro e w2 ⟨rfl, rfl⟩
  go_wp2
  go_ret2
  exact ⟨rfl, below_drewN (Below.refl _ _) d⟩
theorem specGraphCode_no (B : Nat) (v : Value) (L : List Int) (hg : ¬ IsGraph L) (w : World) (h : Row w B v L) :
    Calls Tryd.prog 20 #[v] w (NumOk w 0 false) := by
  have H1 := Lib.hid (specIn_any B v L false ⟨fun h => (by cases h), fun h => absurd h hg⟩ w h)
  clear hg h
  go_enter Tryd.func20, Tryd.ntmps20
  go_wp2_with fail
  refine H1.out.mono ?_
  rintro e w1 ⟨rfl, d, rfl⟩
  go_wp2
  go_ret2
  exact ⟨rfl, below_drewN (Below.refl _ _) d⟩
end Go.Proofs.YtjkepoalepmjoaaDoor

/- The model's number of edges. -/



namespace Go.Proofs.YtjkepoalepmjoaaDoor
open Go.RowKit
set_option linter.unusedVariables false

theorem specGraphEdges_yes (B : Nat) (v : Value) (L : List Int) (hg : IsGraph L) (w : World) (h : Row w B v L) :
    Calls Tryd.prog 24 #[v] w (NumOk w (edgesN L) true) := by
  have H1 := Lib.hid (specIn_any B v L true ⟨fun _ => hg, fun _ => rfl⟩ w h)
  obtain ⟨A, c, rfl, hs⟩ := h.seen
  have H2 := Lib.hid (fun w hs => specEdges_seen A c L hg w hs)
  clear hg h
  go_enter Tryd.func24, Tryd.ntmps24
  go_wp2_with fail
  refine H1.out.mono ?_
  rintro e w1 ⟨rfl, d, rfl⟩
  go_wp2_with fail
  refine (H2.out (w.drewN d) hs).mono ?_
  rintro e w2 ⟨rfl, rfl⟩
  go_wp2
  go_ret2
  exact ⟨rfl, below_drewN (Below.refl _ _) d⟩
theorem specGraphEdges_no (B : Nat) (v : Value) (L : List Int) (hg : ¬ IsGraph L) (w : World) (h : Row w B v L) :
    Calls Tryd.prog 24 #[v] w (NumOk w 0 false) := by
  have H1 := Lib.hid (specIn_any B v L false ⟨fun h => (by cases h), fun h => absurd h hg⟩ w h)
  clear hg h
  go_enter Tryd.func24, Tryd.ntmps24
  go_wp2_with fail
  refine H1.out.mono ?_
  rintro e w1 ⟨rfl, d, rfl⟩
  go_wp2
  go_ret2
  exact ⟨rfl, below_drewN (Below.refl _ _) d⟩
end Go.Proofs.YtjkepoalepmjoaaDoor

/- The program's number of edges, by a range over its iterator. -/



namespace Go.Proofs.YtjkepoalepmjoaaDoor
open Go.RowKit Go.Shelf
attribute [local go_sem] Oper.semAt_some
set_option linter.unusedVariables false

/-- edges hands out its iterator; the graph lies in a box. -/
theorem edges_any (A : Option Addr) (n c : Nat) (w : World) : Calls Tryd.prog 85 #[.slice A n c] w fun e w' =>
    e = .returned (.func (.func 93) #[] #[.pointer (some ⟨w.heap.size, 0, none⟩)]) ∧ w.alloc (.cells #[.slice A n c] 40) = w' := by
  have hmf : ∀ (fn : Fn) (first cap : Array Value) (w : World), (Instr.makeFunc fn first cap).run Tryd.prog w = .ok (.func fn first cap) w := fun _ _ _ _ => rfl
  go_enter Tryd.func85, Tryd.ntmps85
  go_wp2
  go_ret
  exact ⟨rfl, rfl⟩

theorem edgesOf_all {L : List Int} {n : Nat} (ys : List (Pr n)) (h : vals ys = rows n) : (edgesOf L ys).length = (edgesIn L (rows n)).length := by
  rw [← h]
  unfold edgesIn vals edgesOf
  rw [List.filter_map, List.length_map]
  rfl
theorem edgesN_eq (L : List Int) (h : L.length ≤ 6) : edgesN L = (edgesIn L (rows L.length)).length := pc_crun L _ (rows_length _ h)

theorem keepG_t {B : Nat} {A : Option Addr} {c n : Nat} {L : List Int} {X Y Z : World} (h : KeepG B A c n L X Y) (k : KeepG B A c n L Y Z) : KeepG B A c n L X Z := ⟨fun x => k.1 (h.1 x), fun x => k.2 (h.2 x)⟩
theorem keepG_b {B : Nat} {A : Option Addr} {c n : Nat} {L : List Int} (W : World) (l : Nat) (o o' : Obj) (h : W.heap[l]? = some o) (ho : o.isCells = false) : KeepG B A c n L W (W.putObj l o') :=
  ⟨fun x => (boxed_own (β := Unit) B _ (fun _ => _)).putObj (s := ()) o' x h ho, fun x => (seen_own (β := Unit) A L).putObj (s := ()) o' x h ho⟩

set_option maxRecDepth 100000 in
set_option maxHeartbeats 2000000 in
theorem implSize_in (A : Option Addr) (c : Nat) (L : List Int) (hg : IsGraph L) (w : World) (h : Seen w A L) :
    CallsIn Fence.wide 6 Tryd.prog 56 #[.slice A L.length c] w (NumB w (edgesN L)) := by
  have h1 := hg.1
  have h6 := hg.2.1
  have hE := edgesN_eq L h6
  obtain ⟨n, hn⟩ : ∃ n, n = L.length := ⟨_, rfl⟩
  rw [← hn] at h1 h6 hE ⊢
  have HN := Lib.hid hn
  have H := Lib.hid h
  have HG := Lib.hid hg
  have HE := Lib.hid hE
  clear h hg hn hE
  refine callsIn_of_wp_marks Tryd.func56 rfl trivial ?_ rfl
  simp only [Tryd.ntmps56, List.size_toArray, List.length_cons, List.length_nil, Nat.reduceAdd, Nat.reduceSub, Array.replicate_succ, Array.replicate_zero, List.push_toArray, List.append_toArray, List.nil_append, List.cons_append]
  gi_wp2_with (refine ⟨trivial, ?_⟩; gi_at_call 85; refine (callsIn_wide.2 (edges_any _ _ _ _)).mono ?_; rintro e w' ⟨rfl, rfl⟩)
  obtain ⟨W, eW⟩ : ∃ W, W = (w.alloc (.cells #[.int .i64 0] 3)).alloc (.cells #[.slice A n c] 40) := ⟨_, rfl⟩
  have sW : W.heap.size = w.heap.size + 1 + 1 := by rw [eW]; simp
  have hBW : Below w.heap.size w W := by rw [eW]; exact ((Below.refl _ w).alloc (Nat.le_refl _) _).alloc (by simp) _
  have b0 : Boxed W w.heap.size 3 (.int .i64 0) := by rw [eW]; exact (Boxed.new w _ _).alloc _
  have b1 : Boxed W (w.heap.size + 1) 40 (.slice A n c) := by
    rw [eW]; have h := Boxed.new (w.alloc (.cells #[.int .i64 0] 3)) 40 (.slice A n c); rw [World.size_alloc] at h; exact h
  rw [← eW]
  clear eW
  obtain ⟨n₀, en⟩ : ∃ n₀, n₀ = w.heap.size := ⟨_, rfl⟩
  rw [← en] at sW hBW b0 b1 ⊢
  have hle : n₀ ≤ w.heap.size := by omega
  have EN := Lib.hid en
  have hsW : Seen W A L := H.out.below (by rw [← en]; exact hBW)
  clear en
  refine wpIn_outer (α := Pr n) rfl (by omega) (gf := 93) (lb := #[.pointer (some ⟨n₀ + 1, 0, none⟩)]) rfl trivial (enters_of Tryd.func93 (by kernel_rfl) rfl)
    (edges_stops A c L n HN.out HG.out (n₀ + 1) W (by omega) b1 hsW) keepG_t (fun W l o o' _ ho hc _ => keepG_b W l o o' ho hc) (Below.refl _ _) (fun _ => rfl)
    (fun pre Z => (Boxed Z n₀ 3 (.int .i64 (pre.length : Nat)) ∧ Boxed Z (n₀ + 1) 40 (.slice A n c)) ∧ Below n₀ w Z) (fun _ _ _ => False)
    (OwnFrom.and (OwnFrom.and (Own.from (boxed_own _ _ _) _) (Own.from (boxed_own _ _ _) _)) (ownFrom_below hle (by omega))) (fun _ _ _ _ _ hs _ _ => hs)
    ⟨⟨b0, b1⟩, hBW⟩
    (fun x => { tmps := #[.slice A n c, undef, .int .i64 0, .pointer (some ⟨n₀, 0, none⟩), .slice A n c,
      .func (.func 93) #[] #[.pointer (some ⟨n₀ + 1, 0, none⟩)], .int .i64 (x.1.1 : Int), .int .i64 (x.1.2 : Int), undef, undef, undef], defers := [] }) ?assign ?body ?done ?stop
  case assign =>
    intro l x W K hK
    gi_wp2
    simpa [encP] using hK
  case body =>
    rintro l pre x Z ⟨⟨c0, c1⟩, hB⟩ hlen
    obtain ⟨q, eq⟩ : ∃ q, q = pre.length := ⟨_, rfl⟩
    have hk1 : (pre ++ [x]).length = q + 1 := by rw [List.length_append, eq]; rfl
    rw [← eq] at c0 hlen
    have z0 := c0.cell
    have y0 := c0.frozen
    have K1 := Lib.hid hk1
    clear eq hk1
    gi_wp2
    have hB2 : Below n₀ w (Z.setCell ⟨n₀, 0, none⟩ (.int .i64 ((q + 1 : Nat) : Int))) := hB.setCell (p := ⟨n₀, 0, none⟩) (Nat.le_refl _) _
    have hG2 : Boxed (Z.setCell ⟨n₀, 0, none⟩ (.int .i64 ((q + 1 : Nat) : Int))) (n₀ + 1) 40 (.slice A n c) := c1.other (by omega) _
    refine ⟨⟨(KeepsOthers.setCell _ _ _).from _, ⟨fun _ => hG2, fun _ => H.out.below (by rw [← EN.out]; exact hB2)⟩, ⟨?_, hG2⟩, hB2⟩, ?_⟩
    · rw [K1.out]; exact c0.set _
    · intro k o h1 _ h3
      exact (Below.heap_setCell _ _ _ k (fun e => by dsimp only at e; omega)).trans h3
  case done =>
    rintro D xs Z hD hS ⟨⟨c0, c1⟩, hB⟩ hK
    have z0 := c0.cell
    have HS := Lib.hid hS
    clear hS
    gi_wp2
    refine ⟨by simp, .inl ⟨_, _, rfl, run_takeDeferred hK, ?_⟩⟩
    refine ⟨_, results_tmp rfl _ _ _, ?_⟩
    refine ⟨?_, ?_⟩
    · obtain ⟨ys, hy, rfl⟩ := HS.out
      rw [HE.out, ← edgesOf_all ys hy]
      rfl
    · rw [← EN.out]
      exact hB.trans (belowK_b (w := w) hle Z D _ _ (by have := EN.out; omega) hK rfl rfl)
  case stop =>
    rintro D cd pre W _ _ h _
    exact h.elim

theorem implGraphEdges_yes (B : Nat) (v : Value) (L : List Int) (hg : IsGraph L) (w : World) (h : Row w B v L) (hT : Tab w) :
    Calls Tryd.prog 23 #[v] w (NumOk w (edgesN L) true) := by
  have H1 := Lib.hid (asG_graph B v L hg w h hT)
  obtain ⟨A, c, rfl, hs⟩ := h.seen
  have H2 := Lib.hid (fun w hs => callsIn_wide.1 (implSize_in A c L hg w hs))
  clear hg h
  go_enter Tryd.func23, Tryd.ntmps23
  go_wp2_with fail
  go_enter Tryd.func49, Tryd.ntmps49
  go_wp2_with fail
  refine H1.out.mono ?_
  rintro e w1 ⟨rfl, b1⟩
  go_wp2_with fail
  refine (H2.out _ (hs.below b1)).mono ?_
  rintro e w2 ⟨rfl, b2⟩
  go_wp2
  go_ret2
  exact ⟨rfl, b1.trans (b2.mono b1.size)⟩
theorem implGraphEdges_no (B : Nat) (v : Value) (L : List Int) (hg : ¬ IsGraph L) (w : World) (h : Row w B v L) (hT : Tab w) :
    Calls Tryd.prog 23 #[v] w (NumOk w 0 false) := by
  have H1 := Lib.hid (asG_none B v L hg w h hT)
  clear hg h
  go_enter Tryd.func23, Tryd.ntmps23
  go_wp2_with fail
  go_enter Tryd.func49, Tryd.ntmps49
  go_wp2_with fail
  refine H1.out.mono ?_
  rintro e w1 ⟨rfl, b1⟩
  go_wp2
  go_ret2
  exact ⟨rfl, b1⟩
end Go.Proofs.YtjkepoalepmjoaaDoor

/- A graph with its nodes named: the model's way and the program's make one list. Plain mathematics, no condition. -/

namespace Go.Proofs.YtjkepoalepmjoaaDoor
open Go Go.RowKit

def orAt (g : List Nat) (a x : Nat) : List Nat := g.set a (g[a]?.getD 0 ||| x)
theorem orAt_length (g : List Nat) (a x : Nat) : (orAt g a x).length = g.length := by simp [orAt]
theorem orAt_bit (g : List Nat) (a x i j : Nat) (ha : a < g.length) : ((orAt g a x)[i]?.getD 0).testBit j = ((g[i]?.getD 0).testBit j || (decide (i = a) && x.testBit j)) := by
  unfold orAt
  by_cases h : i = a
  · subst h
    rw [List.getElem?_set_self ha]
    simp
  · rw [List.getElem?_set_ne (fun e => h e.symm)]
    simp [h]
theorem lnk_or (g : List Nat) (a b bit : Nat) : lnk g a b bit = orAt (orAt g a (bit * 2 ^ b)) b (bit * 2 ^ a) := rfl
theorem bit_test (bit b j : Nat) (h : bit ≤ 1) : (bit * 2 ^ b).testBit j = (decide (bit = 1) && decide (j = b)) := by
  by_cases h1 : bit = 1
  · subst h1
    rw [Nat.one_mul, Nat.testBit_two_pow]
    simp [eq_comm]
  · have h0 : bit = 0 := by omega
    subst h0
    simp

/-- The program's way: a link for each edge. -/
def lrun (n : Nat) (p : Nat → Nat) (es : List (Nat × Nat)) : List Nat := es.foldl (fun g e => lnk g (p e.1) (p e.2) 1) (List.replicate n 0)
theorem lrun_snoc (n : Nat) (p : Nat → Nat) (es : List (Nat × Nat)) (e : Nat × Nat) : lrun n p (es ++ [e]) = lnk (lrun n p es) (p e.1) (p e.2) 1 := by simp [lrun]
theorem lrun_length (n : Nat) (p : Nat → Nat) (es : List (Nat × Nat)) : (lrun n p es).length = n := by
  induction es using snoc_ind with
  | h0 => simp [lrun]
  | h1 l x ih => rw [lrun_snoc, lnk_length, ih]
theorem lrun_bit (n : Nat) (p : Nat → Nat) (hp : ∀ v, v < n → p v < n) (es : List (Nat × Nat)) (he : ∀ e ∈ es, e.1 < n ∧ e.2 < n) (i j : Nat) :
    ((lrun n p es)[i]?.getD 0).testBit j = true ↔ ∃ e ∈ es, (i = p e.1 ∧ j = p e.2) ∨ (i = p e.2 ∧ j = p e.1) := by
  induction es using snoc_ind with
  | h0 =>
    have h : ((lrun n p [])[i]?.getD 0) = 0 := by unfold lrun; by_cases h : i < n <;> simp [h]
    rw [h]; simp
  | h1 l x ih =>
    have hx := he x (by simp)
    have h1 := hp _ hx.1
    have h2 := hp _ hx.2
    rw [lrun_snoc, lnk_or, orAt_bit _ _ _ _ _ (by rw [orAt_length, lrun_length]; exact h2), orAt_bit _ _ _ _ _ (by rw [lrun_length]; exact h1), bit_test _ _ _ (Nat.le_refl 1), bit_test _ _ _ (Nat.le_refl 1)]
    simp only [Bool.or_eq_true, Bool.and_eq_true, decide_eq_true_eq, ih (fun e h => he e (by simp [h])), List.mem_append, List.mem_singleton]
    constructor
    · rintro ((⟨e, h, h'⟩ | ⟨a, _, b⟩) | ⟨a, _, b⟩)
      · exact ⟨e, .inl h, h'⟩
      · exact ⟨x, .inr rfl, .inl ⟨a, b⟩⟩
      · exact ⟨x, .inr rfl, .inr ⟨a, b⟩⟩
    · rintro ⟨e, (h | rfl), h'⟩
      · exact .inl (.inl ⟨e, h, h'⟩)
      · rcases h' with ⟨a, b⟩ | ⟨a, b⟩
        · exact .inl (.inr ⟨a, trivial, b⟩)
        · exact .inr ⟨a, trivial, b⟩

/-- The model's way: each place of each row. -/
def mrun (L : List Int) (n : Nat) (p : Nat → Nat) (vs : List (Nat × Nat)) : List Nat := vs.foldl (fun g e => orAt g (p e.1) (bt L e.1 e.2 * 2 ^ p e.2)) (List.replicate n 0)
theorem mrun_snoc (L : List Int) (n : Nat) (p : Nat → Nat) (es : List (Nat × Nat)) (e : Nat × Nat) : mrun L n p (es ++ [e]) = orAt (mrun L n p es) (p e.1) (bt L e.1 e.2 * 2 ^ p e.2) := by simp [mrun]
theorem mrun_length (L : List Int) (n : Nat) (p : Nat → Nat) (es : List (Nat × Nat)) : (mrun L n p es).length = n := by
  induction es using snoc_ind with
  | h0 => simp [mrun]
  | h1 l x ih => rw [mrun_snoc, orAt_length, ih]
theorem mrun_bit (L : List Int) (n : Nat) (p : Nat → Nat) (hp : ∀ v, v < n → p v < n) (es : List (Nat × Nat)) (he : ∀ e ∈ es, e.1 < n) (i j : Nat) :
    ((mrun L n p es)[i]?.getD 0).testBit j = true ↔ ∃ e ∈ es, bt L e.1 e.2 = 1 ∧ i = p e.1 ∧ j = p e.2 := by
  induction es using snoc_ind with
  | h0 =>
    have h : ((mrun L n p [])[i]?.getD 0) = 0 := by unfold mrun; by_cases h : i < n <;> simp [h]
    rw [h]; simp
  | h1 l x ih =>
    have h1 := hp _ (he x (by simp))
    rw [mrun_snoc, orAt_bit _ _ _ _ _ (by rw [mrun_length]; exact h1), bit_test _ _ _ (bt_le _ _ _)]
    simp only [Bool.or_eq_true, Bool.and_eq_true, decide_eq_true_eq, ih (fun e h => he e (by simp [h])), List.mem_append, List.mem_singleton]
    constructor
    · rintro (⟨e, h, h'⟩ | ⟨a, b, c⟩)
      · exact ⟨e, .inl h, h'⟩
      · exact ⟨x, .inr rfl, b, a, c⟩
    · rintro ⟨e, (h | rfl), h'⟩
      · exact .inl ⟨e, h, h'⟩
      · exact .inr ⟨h'.2.1, h'.1, h'.2.2⟩

theorem list_bits {a b : List Nat} (hl : a.length = b.length) (h : ∀ i j : Nat, (a[i]?.getD 0).testBit j = true ↔ (b[i]?.getD 0).testBit j = true) : a = b := by
  refine List.ext_getElem hl fun i h1 h2 => ?_
  have h3 : (a[i]?.getD 0) = (b[i]?.getD 0) := Nat.eq_of_testBit_eq fun j => by
    have h4 := h i j
    cases e1 : (a[i]?.getD 0).testBit j <;> cases e2 : (b[i]?.getD 0).testBit j <;> simp_all
  simpa [h1, h2] using h3

theorem rows_all (n a b : Nat) : (a, b) ∈ rows n ↔ a < b ∧ b < n := by
  constructor
  · exact fun h => rows_mem n (a, b) h
  · rintro ⟨h1, h2⟩
    unfold rows
    rw [List.mem_flatMap]
    exact ⟨b, by simpa using h2, by simpa using h1⟩
/-- **Both make one list**, where the graph is one, and each place has been met. -/
theorem named_eq (L : List Int) (hg : IsGraph L) (p : Nat → Nat) (hp : ∀ v, v < L.length → p v < L.length) (vs : List (Nat × Nat)) (hv : ∀ a b, (a, b) ∈ vs ↔ a < L.length ∧ b < L.length) :
    mrun L L.length p vs = lrun L.length p (edgesIn L (rows L.length)) := by
  have sym : ∀ a b, a < L.length → b < L.length → bt L a b = bt L b a := fun a b ha hb => by
    rcases Nat.lt_trichotomy a b with h | h | h
    · exact ((hg.2.2 b hb).2.2 a h).symm
    · rw [h]
    · exact (hg.2.2 a ha).2.2 b h
  refine list_bits (by rw [mrun_length, lrun_length]) fun i j => ?_
  rw [mrun_bit L _ p hp vs (fun e he => ((hv e.1 e.2).1 he).1), lrun_bit _ p hp]
  · constructor
    · rintro ⟨⟨a, b⟩, he, hb, hi, hj⟩
      obtain ⟨ha, hb'⟩ := (hv a b).1 he
      dsimp only at hb hi hj
      rcases Nat.lt_trichotomy a b with h | h | h
      · exact ⟨(a, b), by unfold edgesIn; rw [List.mem_filter]; exact ⟨(rows_all _ _ _).2 ⟨h, hb'⟩, by simpa using hb⟩, .inl ⟨hi, hj⟩⟩
      · subst h
        have := (hg.2.2 a ha).2.1
        omega
      · exact ⟨(b, a), by unfold edgesIn; rw [List.mem_filter]; exact ⟨(rows_all _ _ _).2 ⟨h, ha⟩, by simpa using (sym b a hb' ha).trans hb⟩, .inr ⟨hi, hj⟩⟩
    · rintro ⟨⟨a, b⟩, he, h⟩
      unfold edgesIn at he
      rw [List.mem_filter] at he
      obtain ⟨he, hb⟩ := he
      obtain ⟨h1, h2⟩ := (rows_all _ _ _).1 he
      have hb1 : bt L a b = 1 := by simpa using hb
      rcases h with ⟨hi, hj⟩ | ⟨hi, hj⟩
      · exact ⟨(a, b), (hv _ _).2 ⟨by omega, h2⟩, hb1, hi, hj⟩
      · exact ⟨(b, a), (hv _ _).2 ⟨h2, by omega⟩, (sym b a h2 (by omega)).trans hb1, hi, hj⟩
  · intro e he
    unfold edgesIn at he
    rw [List.mem_filter] at he
    have := rows_mem _ _ he.1
    omega
end Go.Proofs.YtjkepoalepmjoaaDoor

/- Names of nodes: each of n numbers once. Plain mathematics, no condition. -/

namespace Go.Proofs.YtjkepoalepmjoaaDoor
open Go Go.RowKit

theorem nodup_len {P Q : List Nat} (h : P.Nodup) (hs : ∀ x ∈ P, x ∈ Q) : P.length ≤ Q.length := by
  induction P generalizing Q with
  | nil => simp
  | cons x P ih =>
    obtain ⟨hx, hP⟩ := List.nodup_cons.1 h
    have hq := hs x (by simp)
    have h1 := ih hP (Q := Q.erase x) (fun y hy => (List.mem_erase_of_ne (fun (e : y = x) => hx (e ▸ hy))).2 (hs y (by simp [hy])))
    have h2 := List.length_erase_of_mem hq
    have h3 : 0 < Q.length := List.length_pos_of_mem hq
    rw [List.length_cons]
    omega

theorem dup_of_not {P : List Nat} (h : ¬ P.Nodup) : ∃ x, x ∈ P ∧ ∀ y ∈ P, y ∈ P.erase x := by
  induction P with
  | nil => simp at h
  | cons x P ih =>
    by_cases hx : x ∈ P
    · refine ⟨x, by simp, fun y hy => ?_⟩
      rw [List.erase_cons_head]
      rcases List.mem_cons.1 hy with rfl | h'
      · exact hx
      · exact h'
    · have hP : ¬ P.Nodup := fun hn => h (List.nodup_cons.2 ⟨hx, hn⟩)
      obtain ⟨z, hz, hall⟩ := ih hP
      have hxz : x ≠ z := fun e => hx (e ▸ hz)
      refine ⟨z, by simp [hz], fun y hy => ?_⟩
      rw [List.erase_cons_tail (by simpa using hxz)]
      rcases List.mem_cons.1 hy with rfl | h'
      · simp
      · simp [hall y h']

/-- The set of the numbers that have come. -/
def seenOf (P : List Nat) : Nat := P.foldl (fun s x => s ||| 2 ^ x) 0
theorem seenOf_snoc (P : List Nat) (x : Nat) : seenOf (P ++ [x]) = seenOf P ||| 2 ^ x := by simp [seenOf]
theorem seenOf_bit (P : List Nat) (j : Nat) : (seenOf P).testBit j = true ↔ j ∈ P := by
  induction P using snoc_ind with
  | h0 => simp [seenOf]
  | h1 l x ih => rw [seenOf_snoc, Nat.testBit_or, Nat.testBit_two_pow, Bool.or_eq_true, ih, decide_eq_true_eq, List.mem_append, List.mem_singleton]; exact or_congr Iff.rfl ⟨Eq.symm, Eq.symm⟩
theorem seenOf_lt (P : List Nat) (n : Nat) (h : ∀ x ∈ P, x < n) : seenOf P < 2 ^ n := by
  induction P using snoc_ind with
  | h0 => exact Nat.two_pow_pos n
  | h1 l x ih =>
    rw [seenOf_snoc]
    exact Nat.or_lt_two_pow (ih fun y hy => h y (by simp [hy])) (Nat.pow_lt_pow_right (by omega) (h x (by simp)))
theorem seenOf_full (P : List Nat) (n : Nat) (h : ∀ x ∈ P, x < n) : seenOf P = 2 ^ n - 1 ↔ ∀ j, j < n → j ∈ P := by
  constructor
  · intro e j hj
    rw [← seenOf_bit, e, Nat.testBit_two_pow_sub_one]
    simpa using hj
  · intro hall
    refine Nat.eq_of_testBit_eq fun j => ?_
    rw [Nat.testBit_two_pow_sub_one]
    by_cases hj : j < n
    · rw [(seenOf_bit P j).2 (hall j hj)]; simp [hj]
    · have : j ∉ P := fun hm => hj (h j hm)
      have h0 : (seenOf P).testBit j = false := by
        cases e : (seenOf P).testBit j
        · rfl
        · exact absurd ((seenOf_bit P j).1 e) this
      rw [h0]; simp [hj]
/-- n numbers below n: all have come just if none has come twice. -/
theorem names_iff (P : List Nat) (n : Nat) (hl : P.length = n) (h : ∀ x ∈ P, x < n) : seenOf P = 2 ^ n - 1 ↔ P.Nodup := by
  rw [seenOf_full P n h]
  constructor
  · intro hall
    refine Classical.byContradiction fun hn => ?_
    obtain ⟨x, hx, hk⟩ := dup_of_not hn
    have h1 := nodup_len (List.nodup_range (n := n)) (Q := P.erase x) (fun y hy => hk y (hall y (by simpa using hy)))
    have h2 := List.length_erase_of_mem hx
    have h3 : 0 < P.length := List.length_pos_of_mem hx
    rw [List.length_range] at h1
    omega
  · intro hn j hj
    refine Classical.byContradiction fun hm => ?_
    have h1 := nodup_len (List.nodup_cons.2 ⟨hm, hn⟩) (Q := List.range n) (fun y hy => by
      rcases List.mem_cons.1 hy with rfl | h'
      · simpa using hj
      · simpa using h y h')
    rw [List.length_cons, List.length_range] at h1
    omega
end Go.Proofs.YtjkepoalepmjoaaDoor

/- What names are: each of n numbers once. Plain mathematics, no condition. -/

namespace Go.Proofs.YtjkepoalepmjoaaDoor
open Go Go.RowKit
set_option linter.unusedVariables false

def natOf (P : List Int) : List Nat := P.map Int.toNat
def InN (P : List Int) (n k : Nat) : Prop := 0 ≤ P[k]?.getD 0 ∧ P[k]?.getD 0 < (n : Int)
def IsNames (P : List Int) (n : Nat) : Prop := P.length = n ∧ (∀ k, k < P.length → InN P n k) ∧ (natOf P).Nodup
theorem natOf_take (P : List Int) (k : Nat) (h : k < P.length) : (natOf P).take (k + 1) = (natOf P).take k ++ [(P[k]?.getD 0).toNat] := by
  unfold natOf
  rw [List.take_succ_eq_append_getElem (by simpa using h)]
  simp [h]
theorem natOf_mem {P : List Int} {n k : Nat} (h : ∀ u, u < k → InN P n u) (hk : k ≤ P.length) : ∀ x ∈ (natOf P).take k, x < n := by
  intro x hx
  obtain ⟨i, hi, rfl⟩ := List.mem_iff_getElem.1 hx
  simp [natOf] at hi ⊢
  have := h i (by omega)
  unfold InN at this
  have e : P[i]?.getD 0 = P[i] := by simp [show i < P.length by omega]
  rw [e] at this
  omega
theorem names_tell {P : List Int} {n : Nat} (hin : ∀ u, u < P.length → InN P n u) : (P.length = n ∧ seenOf (natOf P) = 2 ^ n - 1) ↔ IsNames P n := by
  have hm : ∀ x ∈ natOf P, x < n := by
    have := natOf_mem hin (Nat.le_refl _)
    rwa [show P.length = (natOf P).length by simp [natOf], List.take_length] at this
  constructor
  · rintro ⟨h1, h2⟩
    exact ⟨h1, hin, (names_iff _ n (by simpa [natOf] using h1) hm).1 h2⟩
  · rintro ⟨h1, _, h3⟩
    exact ⟨h1, (names_iff _ n (by simpa [natOf] using h1) hm).2 h3⟩

end Go.Proofs.YtjkepoalepmjoaaDoor

/- All places of a square, row by row; a name as a natural number. Plain mathematics, no condition. -/

namespace Go.Proofs.YtjkepoalepmjoaaDoor
open Go Go.RowKit

def grid (n v : Nat) : List (Nat × Nat) := (List.range v).flatMap fun a => (List.range n).map fun b => (a, b)
def gridTo (n v x : Nat) : List (Nat × Nat) := grid n v ++ (List.range x).map fun b => (v, b)
theorem grid_zero (n : Nat) : grid n 0 = [] := rfl
theorem gridTo_zero (n v : Nat) : gridTo n v 0 = grid n v := by simp [gridTo]
theorem gridTo_succ (n v x : Nat) : gridTo n v (x + 1) = gridTo n v x ++ [(v, x)] := by simp [gridTo, List.range_succ]
theorem gridTo_end (n v : Nat) : gridTo n v n = grid n (v + 1) := by simp [gridTo, grid, List.range_succ]
theorem grid_all (n a b : Nat) : (a, b) ∈ grid n n ↔ a < n ∧ b < n := by
  unfold grid
  simp
theorem gridTo_mem (n v x : Nat) (hv : v < n) (hx : x ≤ n) : ∀ e ∈ gridTo n v x, e.1 < n ∧ e.2 < n := by
  rintro ⟨a, b⟩ h
  unfold gridTo grid at h
  simp at h
  omega

/-- A name. -/
def nm (P : List Int) (v : Nat) : Nat := (P[v]?.getD 0).toNat
theorem nm_int {P : List Int} {n v : Nat} (h : IsNames P n) (hv : v < n) : P[v]?.getD 0 = (nm P v : Int) ∧ nm P v < n := by
  have h1 := h.2.1 v (by rw [h.1]; exact hv)
  unfold InN at h1
  unfold nm
  omega
theorem nm_ne {P : List Int} {n v x : Nat} (h : IsNames P n) (hv : v < n) (hx : x < n) (hne : v ≠ x) : nm P v ≠ nm P x := fun e => by
  have h1 := h.2.2
  have hl : (natOf P).length = n := by simp [natOf, h.1]
  have hv2 : v < P.length := by have := h.1; omega
  have hx2 : x < P.length := by have := h.1; omega
  have g1 : (natOf P)[v]'(by omega) = nm P v := by simp [natOf, nm, hv2]
  have g2 : (natOf P)[x]'(by omega) = nm P x := by simp [natOf, nm, hx2]
  have hp := List.pairwise_iff_getElem.1 h1
  rcases Nat.lt_or_gt_of_ne hne with h | h
  · exact hp v x (by omega) (by omega) h (by rw [g1, g2]; exact e)
  · exact hp x v (by omega) (by omega) h (by rw [g1, g2]; exact e.symm)
theorem mrun_lt (L : List Int) (n : Nat) (p : Nat → Nat) (es : List (Nat × Nat)) (hp : ∀ e ∈ es, p e.2 < 6) : ∀ x ∈ mrun L n p es, x < 2 ^ 6 := by
  induction es using snoc_ind with
  | h0 => intro x hx; simp [mrun] at hx; omega
  | h1 l x ih =>
    rw [mrun_snoc]
    unfold orAt
    have h1 := ih (fun e he => hp e (by simp [he]))
    refine set_lt h1 _ _ (Nat.or_lt_two_pow (get_lt h1 _ (by decide)) ?_)
    exact bit_shift (bt_le _ _ _) (hp x (by simp))
end Go.Proofs.YtjkepoalepmjoaaDoor

/- A region that draws its order, inside a round of a range over a function: if all its operations but the last ones leave the world alone, and those last ones come one by one behind all others, then one walk of the text's order serves every order. -/





namespace Go.Proofs.YtjkepoalepmjoaaDoor
open Go
set_option linter.unusedVariables false

section
variable {n rnd : Nat} {P : Program} {ops : Array Oper} {md : Region.Mode} {w : World}

/-- No operation of a list is put off. -/
def noPut : List Oper → Bool
  | [] => true
  | o :: l => (match o.op with | .defer _ => false | _ => true) && noPut l
theorem noPut_spec : ∀ {l : List Oper}, noPut l = true → ∀ (i : Nat) (o : Oper), l[i]? = some o → ∀ c, o.op ≠ .defer c
  | [], _, i, o, h, _ => by simp at h
  | x :: l, hp, i, o, h, c => by
    simp only [noPut, Bool.and_eq_true] at hp
    cases i with
    | zero =>
      simp at h
      subst h
      intro e
      rw [e] at hp
      simp at hp
    | succ i => exact noPut_spec hp.2 i o (by simpa using h) c

theorem wpIn_of_still_round {o : Oper} {a : Act} {K : Act → Prop} {K' : Act → World → Prop} {Q' : Exit → Act → World → Prop} (hd : ∀ c, o.op ≠ .defer c) (h : ∀ a, K a → K' a w) (hh : o.still P a w K) : o.wpIn (Fence.wide.inRound rnd) n P a w K' Q' := by
  unfold Oper.still at hh
  unfold Oper.wpIn
  refine ⟨fun _ _ => trivial, ?_⟩
  rw [Oper.semAt_eq _ _ _ hd]
  generalize (execOp a.eval o).run P w = r at *
  cases r with
  | ok x w' =>
    cases x <;> simp only [Oper.stillUpon] at hh <;> simp only [Oper.uponIn]
    case enter f args =>
      obtain ⟨rfl, v, hc, hn⟩ := hh
      exact ⟨fun e => (by cases e), (CallsIn.inRound rnd (callsIn_wide.2 hc)).mono fun e w'' ⟨he, hw⟩ => by subst he; subst hw; exact h _ hn⟩
    all_goals (obtain ⟨rfl, h2⟩ := hh; exact h _ h2)
  | halt x w' => simp only [Oper.stillUpon] at hh

theorem wpOpIn_of_stOp_round {i : Nat} {a : Act} {K : Act → Prop} {K' : Act → World → Prop} {Q' : Exit → Act → World → Prop} (hd : ∀ (i : Nat) (o : Oper), ops[i]? = some o → ∀ c, o.op ≠ .defer c) (h : ∀ a, K a → K' a w) (hh : stOp P ops w i K a) : wpOpIn (Fence.wide.inRound rnd) n P ops Q' i K' a w := by
  unfold stOp at hh
  unfold wpOpIn
  split
  · rename_i ho; simp only [ho] at hh; exact h _ hh
  · rename_i o ho
    simp only [ho] at hh
    split
    · rename_i hw; simp only [hw, if_true] at hh; exact wpIn_of_still_round (hd i o ho) h hh
    · rename_i hw; simp only [hw] at hh; exact ⟨fun _ _ => trivial, h _ hh⟩

theorem wpAnyIn_of_head {k g : Nat} {L : Array Bool → Act → Prop} {Q' : Exit → Act → World → Prop} (hd : ∀ (i : Nat) (o : Oper), ops[i]? = some o → ∀ c, o.op ≠ .defer c) (hL : ∀ listed a, L listed a → wpAnyIn (Fence.wide.inRound rnd) n P md ops Q' g listed a w) :
    ∀ (f : Nat) (listed : Array Bool) (a : Act), wpAnyL P md ops w k L f listed a → wpAnyIn (Fence.wide.inRound rnd) n P md ops Q' (f + g) listed a w
  | 0, listed, a, h => by rw [Nat.zero_add]; exact hL _ _ h
  | f + 1, listed, a, h => by
    rw [show f + 1 + g = (f + g) + 1 by omega]
    exact ⟨fun h0 => absurd h0 h.1, fun i hi => wpOpIn_of_stOp_round hd (fun a' h' => wpAnyIn_of_head hd hL f _ a' h') (h.2 i hi).2⟩

theorem wpAnyIn_of_seq {F : Fence} {Q' : Exit → Act → World → Prop} : ∀ (l : List Oper) (k : Nat) (listed : Array Bool) (a : Act) (w : World), (∀ j : Nat, l[j]? = ops[k + j]?) →
    Region.seqB md ops l.length k listed = true → wpListIn F n P ops Q' l a w → wpAnyIn F n P md ops Q' l.length listed a w
  | [], _, _, _, _, _, hB, h => ⟨by simpa [Region.seqB] using hB, h⟩
  | o :: l, k, listed, a, w, hl, hB, h => by
    have h0 : ops[k]? = some o := by simpa using (hl 0).symm
    simp only [List.length_cons, Region.seqB, Bool.and_eq_true, decide_eq_true_eq] at hB
    refine ⟨fun h1 => (by rw [hB.1] at h1; cases h1), fun i hi => ?_⟩
    rw [hB.1] at hi
    have hik : i = k := by simpa using hi
    subst hik
    have hw : wpOpIn F n P ops Q' i (wpListIn F n P ops Q' l) a w := by unfold wpOpIn; simp only [h0]; exact h
    exact wpOpIn_mono (fun a' w' h' => wpAnyIn_of_seq l (i + 1) _ a' w' (fun j => by have := hl (j + 1); simpa [Nat.add_assoc, Nat.add_comm 1 j] using this) hB.2 h') hw

/-- **The text's order serves every order, in a round.** -/
theorem wpIn_tail_round {id : Nat} {Q : Exit → Act → World → Prop} {a : Act} {l : List Oper} (k : Nat) (hm : P.follows .mixedOrders = true) (hd : noPut l = true) (hB : Region.lexTailB .any l.toArray k = true)
    (h : wpStill P l.toArray w.drew (fun a' => wpListIn (Fence.wide.inRound rnd) n P l.toArray Q (l.drop k) a' w.drew) (l.take k) a) : (Code.region id l.toArray true).wpIn (Fence.wide.inRound rnd) n P Q a w := by
  simp only [Region.lexTailB, Bool.and_eq_true, decide_eq_true_eq] at hB
  obtain ⟨⟨⟨⟨hsel, hn⟩, hs⟩, hc⟩, hlex⟩ := hB
  have hn' : k < l.length := by simpa using hn
  have htl : (l.take k).length = k := by simp; omega
  have hdl : (l.drop k).length = l.toArray.size - k := by simp
  have inv0 : HeadInv .any l.toArray k (Array.replicate l.toArray.size false) :=
    ⟨by simp, fun j oj _ hl => (by rw [getD_replicate_false] at hl; cases hl), fun t _ ht => getD_in (by simpa using ht) (getD_replicate_false _ _)⟩
  have hd' : ∀ (i : Nat) (o : Oper), l.toArray[i]? = some o → ∀ c, o.op ≠ .defer c := fun i o ho => noPut_spec hd i o (by simpa using ho)
  have H := wpAnyL_lex (md := .any) (g := l.toArray.size - k) hsel hs hc hn (l.take k) 0 _ a (fun j hj => by
    have hj' : j < k := by rw [htl] at hj; exact hj
    simp [hj']) (by simpa using htl) inv0 (by rw [htl]; exact hlex) h
  refine wpIn_region_any hm ?_
  have := wpAnyIn_of_head (rnd := rnd) (n := n) (Q' := Q) (g := l.toArray.size - k) hd' (fun listed a' hL => by
    have := wpAnyIn_of_seq (F := Fence.wide.inRound rnd) (n := n) (P := P) (md := .any) (Q' := Q) (l.drop k) k listed a' w.drew (fun j => by simp [List.getElem?_drop]) (by rw [hdl]; exact hL.1) hL.2
    rwa [hdl] at this) _ _ _ H
  rw [htl, show k + (l.toArray.size - k) = l.toArray.size by omega] at this
  exact this
end
end Go.Proofs.YtjkepoalepmjoaaDoor

/- The program's named, by a range over its edges. -/





namespace Go.Proofs.YtjkepoalepmjoaaDoor
open Go.RowKit Go.Shelf
attribute [local go_sem] Oper.semAt_some
set_option linter.unusedVariables false

theorem vals_edgesOf {n : Nat} (L : List Int) (ys : List (Pr n)) : vals (edgesOf L ys) = edgesIn L (vals ys) := by
  unfold edgesIn vals edgesOf
  rw [List.filter_map]
  rfl
theorem lrun_lt6 (n : Nat) (p : Nat → Nat) (es : List (Nat × Nat)) (h : ∀ e ∈ es, p e.1 < 6 ∧ p e.2 < 6) : ∀ x ∈ lrun n p es, x < 2 ^ 6 := by
  induction es using snoc_ind with
  | h0 => intro x hx; simp [lrun] at hx; omega
  | h1 l x ih =>
    rw [lrun_snoc]
    exact lnk_lt (ih (fun e he => h e (by simp [he]))) _ _ _ (h x (by simp)).1 (h x (by simp)).2 (Nat.le_refl 1)

/-- Between two rounds: the names' box, the list's box, the graph's box; the list holds the edges that have come. -/
def NmI (n₀ g n : Nat) (S S' : Value) (P : List Int) (pre : List (Pr n)) (W : World) : Prop :=
  Boxed W n₀ 23 S' ∧ Boxed W (n₀ + 1 + 1) 40 (.slice (some ⟨g, 0, none⟩) n n) ∧ Boxed W (n₀ + 1 + 1 + 1) 40 S ∧ Row W n₀ (.slice (some ⟨g, 0, none⟩) n n) (ints (lrun n (nm P) (vals pre)))
theorem nmI_own (n₀ g n : Nat) (S S' : Value) (P : List Int) : Own (NmI n₀ g n S S' P) := fun s X Y row hs hg hr =>
  ⟨boxed_own _ _ (fun _ : Unit => _) () X Y row hs.1 hg hr, boxed_own _ _ (fun _ : Unit => _) () X Y row hs.2.1 hg hr, boxed_own _ _ (fun _ : Unit => _) () X Y row hs.2.2.1 hg hr, row_kept hs.2.2.2 hg hr⟩

set_option maxRecDepth 100000 in
set_option maxHeartbeats 4000000 in
theorem implNamed_in (A A' : Option Addr) (c c' : Nat) (L P : List Int) (hg : IsGraph L) (hP : IsNames P L.length) (w : World) (h : Seen w A L) (h' : Seen w A' P) :
    CallsIn Fence.wide 6 Tryd.prog 68 #[.slice A L.length c, .slice A' P.length c'] w (Gave w (ints (lrun L.length (nm P) (edgesIn L (rows L.length))))) := by
  have h1 := hg.1
  have h6 := hg.2.1
  have hpl := hP.1
  obtain ⟨n, hn⟩ : ∃ n, n = L.length := ⟨_, rfl⟩
  rw [← hn] at h1 h6 hP hpl ⊢
  rw [hpl]
  have hmk := run_make_graph n (by omega)
  have hms : ∀ x, (madeW x n).heap.size = x.heap.size + 1 := fun x => madeW_size x n
  have HN := Lib.hid hn
  have HPL := Lib.hid hpl
  have H := Lib.hid h
  have H' := Lib.hid h'
  have HG := Lib.hid hg
  have HP := Lib.hid hP
  clear h h' hg hn hP hpl
  refine callsIn_of_wp_marks Tryd.func68 rfl trivial ?_ rfl
  simp only [Tryd.ntmps68, List.size_toArray, List.length_cons, List.length_nil, Nat.reduceAdd, Nat.reduceSub, Array.replicate_succ, Array.replicate_zero, List.push_toArray, List.append_toArray, List.nil_append, List.cons_append]
  gi_wp2_with (refine ⟨trivial, ?_⟩; gi_at_call 85; refine (callsIn_wide.2 (edges_any _ _ _ _)).mono ?_; rintro e w' ⟨rfl, rfl⟩)
  have R0 := madeW_row (w.alloc (.cells #[.slice A' n c'] 23)) n (by omega)
  have M0 := madeW_below (w.alloc (.cells #[.slice A' n c'] 23)) n
  have S0 := hms (w.alloc (.cells #[.slice A' n c'] 23))
  have X0 : Boxed (madeW (w.alloc (.cells #[.slice A' n c'] 23)) n) w.heap.size 23 (.slice A' n c') := (Boxed.new w 23 (.slice A' n c')).alloc _
  clear hmk hms
  obtain ⟨w1, e1⟩ : ∃ w1, w1 = madeW (w.alloc (.cells #[.slice A' n c'] 23)) n := ⟨_, rfl⟩
  rw [← e1] at R0 M0 S0 X0 ⊢
  rw [World.size_alloc] at R0 M0 S0
  have hB1 : Below w.heap.size w w1 := ((Below.refl _ w).alloc (Nat.le_refl _) _).trans (M0.mono (by omega))
  clear e1
  obtain ⟨W, eW⟩ : ∃ W, W = (w1.alloc (.cells #[.slice (some ⟨w.heap.size + 1, 0, none⟩) n n] 40)).alloc (.cells #[.slice A n c] 40) := ⟨_, rfl⟩
  have sW : W.heap.size = w.heap.size + 1 + 1 + 1 + 1 := by rw [eW]; simp [S0]
  have hBW : Below w.heap.size w W := by rw [eW]; exact (hB1.alloc (by omega) _).alloc (by simp; omega) _
  have b0 : Boxed W w.heap.size 23 (.slice A' n c') := by rw [eW]; exact (X0.alloc _).alloc _
  have b2 : Boxed W (w.heap.size + 1 + 1) 40 (.slice (some ⟨w.heap.size + 1, 0, none⟩) n n) := by
    rw [eW]; have h := Boxed.new w1 40 (.slice (some ⟨w.heap.size + 1, 0, none⟩) n n); rw [S0] at h; exact h.alloc _
  have b3 : Boxed W (w.heap.size + 1 + 1 + 1) 40 (.slice A n c) := by
    rw [eW]; have h := Boxed.new (w1.alloc (.cells #[.slice (some ⟨w.heap.size + 1, 0, none⟩) n n] 40)) 40 (.slice A n c); rw [World.size_alloc, S0] at h; exact h
  have r0 : Row W w.heap.size (.slice (some ⟨w.heap.size + 1, 0, none⟩) n n) (ints (List.replicate n 0)) := by
    rw [eW]; exact ((R0.mono (by omega)).alloc _).alloc _
  rw [← eW]
  clear eW S0 X0 R0 M0 hB1
  obtain ⟨n₀, en⟩ : ∃ n₀, n₀ = w.heap.size := ⟨_, rfl⟩
  rw [← en] at sW hBW b0 b2 b3 r0 ⊢
  have EN := Lib.hid en
  have SW := Lib.hid sW
  have hle : n₀ ≤ w.heap.size := by omega
  have hsW : Seen W A L := H.out.below (by rw [← en]; exact hBW)
  clear en
  refine wpIn_outer (α := Pr n) rfl (by omega) (gf := 93) (lb := #[.pointer (some ⟨n₀ + 1 + 1 + 1, 0, none⟩)]) rfl trivial (enters_of Tryd.func93 (by kernel_rfl) rfl)
    (edges_stops A c L n HN.out HG.out (n₀ + 1 + 1 + 1) W (by omega) b3 hsW) keepG_t (fun W l o o' _ ho hc _ => keepG_b W l o o' ho hc) (Below.refl _ _) (fun _ => rfl)
    (fun pre Z => NmI n₀ (n₀ + 1) n (.slice A n c) (.slice A' n c') P pre Z ∧ Below n₀ w Z) (fun _ _ _ => False)
    (OwnFrom.and (Own.from (nmI_own n₀ (n₀ + 1) n _ _ P) _) (ownFrom_below hle (by omega))) (fun _ _ _ _ _ hs _ _ => hs)
    ⟨⟨b0, b2, b3, r0⟩, hBW⟩
    (fun x => { tmps := #[.slice A n c, .slice A' n c', undef, .pointer (some ⟨n₀, 0, none⟩), .slice none 0 0, .pointer (some ⟨n₀ + 1 + 1, 0, none⟩), .int .i64 (x.1.1 : Int), .int .i64 (x.1.2 : Int), .slice A n c, .int .i64 n, .slice (some ⟨n₀ + 1, 0, none⟩) n n, .slice A n c,
      .func (.func 93) #[] #[.pointer (some ⟨n₀ + 1 + 1 + 1, 0, none⟩)], .int .i64 (x.1.1 : Int), .int .i64 (x.1.2 : Int), undef, undef, undef, undef, undef, undef, undef, undef, undef, undef, undef], defers := [] }) ?assign ?body ?done ?stop
  case assign =>
    intro l x W K hK
    gi_wp2
    simpa [encP] using hK
  case body =>
    rintro l pre x Z ⟨⟨c0, c2, c3, hr⟩, hB⟩ hlen
    have hmem : ∀ e ∈ vals pre, nm P e.1 < n ∧ nm P e.2 < n := fun e he => by
      simp only [vals, List.mem_map] at he
      obtain ⟨q, _, rfl⟩ := he
      have := q.2
      exact ⟨(nm_int HP.out (by omega)).2, (nm_int HP.out (by omega)).2⟩
    have hsm : ∀ y ∈ lrun n (nm P) (vals pre), y < 1048576 := fun y hy => Nat.lt_trans (lrun_lt6 n (nm P) (vals pre) (fun e he => by have := hmem e he; omega) y hy) (by decide)
    have hL : (lrun n (nm P) (vals pre)).length = n := lrun_length _ _ _
    have hst := lrun_snoc n (nm P) (vals pre) x.1
    rw [← vals_snoc] at hst
    obtain ⟨⟨u, v⟩, hu, hv⟩ := x
    dsimp only at hu hv hst ⊢
    obtain ⟨ea, ha⟩ := nm_int HP.out (show u < n by omega)
    obtain ⟨eb, hb⟩ := nm_int HP.out hv
    have hab := nm_ne HP.out (show u < n by omega) hv (by omega)
    obtain ⟨blk', off', rfl, hbl', hcP⟩ := H'.out u (by have := HPL.out; omega)
    obtain ⟨blk2, off2, e2b, hbl2, hcQ⟩ := H'.out v (by have := HPL.out; omega)
    obtain ⟨rfl, rfl⟩ : blk' = blk2 ∧ off' = off2 := by injection e2b with e; injection e with e1 e2; exact ⟨e1, e2⟩
    rw [ea] at hcP
    rw [eb] at hcQ
    obtain ⟨a, eaa⟩ : ∃ a, a = nm P u := ⟨_, rfl⟩
    obtain ⟨b, ebb⟩ : ∃ b, b = nm P v := ⟨_, rfl⟩
    obtain ⟨M, eM⟩ : ∃ M, M = lrun n (nm P) (vals pre) := ⟨_, rfl⟩
    rw [← eaa] at hcP ha hab hst
    rw [← ebb] at hcQ hb hab hst
    rw [← eM] at hsm hL hst hr
    have hPw : Z.cell? ⟨blk', off' + u, none⟩ = some (.int .i64 a) := (hB.cell (p := ⟨blk', off' + u, none⟩) (by rw [EN.out]; exact hbl')).trans hcP
    have hQw : Z.cell? ⟨blk', off' + v, none⟩ = some (.int .i64 b) := (hB.cell (p := ⟨blk', off' + v, none⟩) (by rw [EN.out]; exact hbl')).trans hcQ
    have hi1 : (0 : Int) ≤ (u : Int) ∧ (u : Int) < (n : Int) := by omega
    have hi2 : (0 : Int) ≤ (v : Int) ∧ (v : Int) < (n : Int) := by omega
    have z0 := c0.cell
    have z2 := c2.cell
    have ST := Lib.hid hst
    have C0 := Lib.hid c0
    have C2 := Lib.hid c2
    have C3 := Lib.hid c3
    have HR := Lib.hid hr
    have HL := Lib.hid hL
    have HS := Lib.hid hsm
    have HAB := Lib.hid hab
    clear hst c0 c2 c3 hr hL hsm hab hmem eM eaa ebb ea eb hcP hcQ hbl' hbl2 e2b
    gi_wp2
    refine wpIn_tail_round 9 (by kernel_rfl) (by kernel_rfl) (by kernel_rfl) ?_
    simp only [List.take_succ_cons, List.take_zero, List.drop_succ_cons, List.drop_zero]
    repeat still_step
    refine wpStill_nil ?_
    gi_wp2_with (refine ⟨trivial, ?_⟩; gi_at_call 83; refine (CallsIn.inRound l (callsIn_wide.2 (link_any n₀ (n₀ + 1) n n M a b Z.drew h6 HL.out ha hb HAB.out HS.out HR.out))).mono ?_; rintro e W3 ⟨⟨uu, rfl⟩, hr3, hg3⟩; have G3 := Lib.hid hg3; have R3 := Lib.hid hr3; clear hg3 hr3)
    have gz : Z.grownBy W3 (some (n₀ + 1)) := World.grownBy.trans (grown_drew (World.grownBy.refl Z (some (n₀ + 1)))) G3.out
    have hB3 : Below n₀ w W3 := hB.grown gz (by have := hB.size; omega) (fun j e => by cases e; omega)
    have d3 := C3.out.kept gz (ne_some (by omega))
    refine ⟨⟨(KeepsOthers.of_grownBy gz ?_).from _, ⟨fun _ => d3, fun _ => H.out.below (by rw [← EN.out]; exact hB3)⟩, ⟨C0.out.kept gz (ne_some (by omega)), C2.out.kept gz (ne_some (by omega)), d3, ?_⟩, hB3⟩, ?_⟩
    · intro j o ej hj
      cases ej
      rcases HR.out.2 with ⟨hv0, _⟩ | ⟨g, cap, cur, hv0, _, hgb, _⟩
      · cases hv0
      · cases hv0
        rw [hgb] at hj
        cases hj
        rfl
    · rw [ST.out]; exact R3.out
    · intro k o h1 _ h3
      exact (gz.block k (Array.getElem?_eq_some_iff.1 h3).1 (fun e => by injection e with e; have := SW.out; omega)).trans h3
  case done =>
    rintro D xs Z hD hS ⟨⟨c0, c2, c3, hr⟩, hB⟩ hK
    have z2 := c2.cell
    have HS := Lib.hid hS
    have HR := Lib.hid hr
    clear hS hr
    gi_wp2
    refine ⟨by simp, .inl ⟨_, _, rfl, run_takeDeferred hK, ?_⟩⟩
    refine ⟨_, results_tmp rfl _ _ _, ?_⟩
    refine ⟨_, rfl, ?_, ?_⟩
    · rw [← EN.out]
      have h0 := ownsRow_putObj HR.out (.deferred none) hK rfl
      obtain ⟨ys, hy, rfl⟩ := HS.out
      rw [vals_edgesOf, hy] at h0
      exact h0
    · rw [← EN.out]
      exact hB.trans (belowK_b (w := w) hle Z D _ _ (by have := EN.out; omega) hK rfl rfl)
  case stop =>
    rintro D cd pre W _ _ h _
    exact h.elim

end Go.Proofs.YtjkepoalepmjoaaDoor

/- The model's l1Named: each place of each row is put where its names say. -/




namespace Go.Proofs.YtjkepoalepmjoaaDoor
open Go.RowKit
set_option linter.unusedVariables false

/-- Between two places: the list holds those that are done. -/
def NaRel (w wr : World) (g n : Nat) (L P : List Int) (pre : List (Nat × Nat)) : Prop := Row wr w.heap.size (.slice (some ⟨g, 0, none⟩) n n) (ints (mrun L n (nm P) pre)) ∧ Below w.heap.size w wr

/-- All that one place's round asks, and what it leaves. -/
theorem na_step {w wr : World} {g n : Nat} {L P : List Int} (hn : n = L.length) (hg : IsGraph L) (hP : IsNames P n) {v x : Nat} (hv : v < n) (hx : x < n) (hG : g = w.heap.size) (hq : NaRel w wr g n L P (gridTo n v x)) :
    ∃ X a b bit q u : Nat, L[v]?.getD 0 = (X : Int) ∧ P[v]?.getD 0 = (a : Int) ∧ P[x]?.getD 0 = (b : Int) ∧ a < n ∧ b < n ∧
      bits .and .i64 ((X : Int) / 2 ^ x) 1 = (bit : Int) ∧ (wrap64 ((bit : Int) * 2 ^ b) = (q : Int) ∧ IntKind.i64.wrap ((bit : Int) * 2 ^ b) = (q : Int)) ∧
      bits .or .i64 (u : Int) (q : Int) = ((u ||| q : Nat) : Int) ∧
      (wr.cell? ⟨g, a, none⟩ = some (.int .i64 u) ∧ wr.frozen? ⟨g, a, none⟩ = false) ∧
      ∃ w2 w3, w2 = wr.drew ∧ w2.cell? ⟨g, a, none⟩ = some (.int .i64 u) ∧ w2.frozen? ⟨g, a, none⟩ = false ∧ w3 = w2.setCell ⟨g, a, none⟩ (.int .i64 ((u ||| q : Nat) : Int)) ∧ Hid (NaRel w w3 g n L P (gridTo n v (x + 1))) := by
  have h6 := hg.2.1
  have hin := (hg.2.2 v (by omega)).1
  have hX := ent_int hin
  have hXl := ent_lt hin
  have h64 := two_le h6
  obtain ⟨ea, ha⟩ := nm_int hP hv
  obtain ⟨eb, hb⟩ := nm_int hP hx
  have hL : (mrun L n (nm P) (gridTo n v x)).length = n := mrun_length _ _ _ _
  have hsm := mrun_lt L n (nm P) (gridTo n v x) (fun e he => by
    have h1 := gridTo_mem n v x hv (by omega) e he
    have h2 := nm_int hP h1.2
    omega)
  have hst := mrun_snoc L n (nm P) (gridTo n v x) (v, x)
  rw [← gridTo_succ] at hst
  obtain ⟨bit, ebit, hbit, f1⟩ := and_facts (ent L v) x (by omega)
  have e1 : bt L v x = bit := by unfold bt; exact ebit.symm
  obtain ⟨b, ebb⟩ : ∃ b, b = nm P x := ⟨_, rfl⟩
  obtain ⟨a, eaa⟩ : ∃ a, a = nm P v := ⟨_, rfl⟩
  rw [← ebb] at eb hb
  rw [← eaa] at ea ha
  obtain ⟨q, eq⟩ : ∃ q, q = bit * 2 ^ b := ⟨_, rfl⟩
  have hq6 := bit_pow (k := b) hbit (by omega)
  rw [← eq] at hq6
  obtain ⟨u, eu⟩ : ∃ u, u = (mrun L n (nm P) (gridTo n v x))[a]?.getD 0 := ⟨_, rfl⟩
  have hu6 : u < 2 ^ 6 := by rw [eu]; exact get_lt hsm a (by omega)
  have f2 := wrap_bit bit b q hbit (by omega) eq
  have f3 := i64_or_nat u q (Nat.lt_trans hu6 (by decide)) (Nat.lt_trans hq6 (by decide))
  have hrow := hq.1
  have hl1 : a < (ints (mrun L n (nm P) (gridTo n v x))).length := by rw [ints_length]; omega
  have hc : wr.cell? ⟨g, a, none⟩ = some (.int .i64 u) := by rw [hrow.cellAt a hl1, ints_get, ← eu]
  have hf : wr.frozen? ⟨g, a, none⟩ = false := hrow.frozenAt a hl1
  have r1 := hrow.set a hl1 ((u ||| q : Nat) : Int)
  rw [ints_set] at r1
  have el : mrun L n (nm P) (gridTo n v (x + 1)) = (mrun L n (nm P) (gridTo n v x)).set a (u ||| q) := by
    rw [hst]
    unfold orAt
    dsimp only
    rw [e1, ← ebb, ← eaa, ← eq, ← eu]
  rw [← el] at r1
  refine ⟨ent L v, a, b, bit, q, u, hX, ea, eb, ha, hb, f1, ⟨f2, by rw [IntKind.wrap_i64]; unfold wrap64 at f2; exact f2⟩, f3, ⟨hc, hf⟩, _, _, rfl, hc, hf, rfl, Lib.hid ⟨r1, ?_⟩⟩
  exact (hq.2.drew).setCell (p := ⟨g, a, none⟩) (by show w.heap.size ≤ g; omega) _

set_option maxRecDepth 100000 in
set_option maxHeartbeats 2000000 in
theorem specNamed_seen (A A' : Option Addr) (c c' : Nat) (L P : List Int) (hg : IsGraph L) (hP : IsNames P L.length) (w : World) (h : Seen w A L) (h' : Seen w A' P) :
    Calls Tryd.prog 70 #[.slice A L.length c, .slice A' P.length c'] w (Gave w (ints (mrun L L.length (nm P) (grid L.length L.length)))) := by
  have h1 := hg.1
  have h6 := hg.2.1
  have hpl := hP.1
  obtain ⟨n, hn⟩ : ∃ n, n = L.length := ⟨_, rfl⟩
  rw [← hn] at h1 h6 hP hpl ⊢
  rw [hpl]
  have hmk := run_make_ints n (by omega)
  obtain ⟨g, eg⟩ : ∃ g, g = w.heap.size := ⟨_, rfl⟩
  have HN := Lib.hid hn
  have HPL := Lib.hid hpl
  have H := Lib.hid h
  have H' := Lib.hid h'
  have HG := Lib.hid hg
  have HP := Lib.hid hP
  have EG := Lib.hid eg
  have R0 := Lib.hid (madeW_row w n (by omega))
  have B0 := Lib.hid (madeW_below w n)
  clear h h' hg hn hP hpl eg
  go_enter Tryd.func70, Tryd.ntmps70
  go_wp2
  clear hmk
  obtain ⟨w0, hw0⟩ : ∃ w0, w0 = madeW w n := ⟨_, rfl⟩
  rw [← hw0] at R0 B0 ⊢
  rw [← EG.out] at R0 ⊢
  clear hw0
  go_loopw [6] (fun v wr => ∃ y : Nat, y ≤ n ∧ v = .int .i64 y ∧ Hid (NaRel w wr g n L P (grid n y))) (fun v _ => n - (intOf v).toNat)
  case atStart => exact ⟨0, by omega, rfl, Lib.hid ⟨by rw [grid_zero]; rw [EG.out] at *; exact R0.out, B0.out⟩⟩
  case round =>
    obtain ⟨y, hyn, rfl, hr⟩ := hrel
    obtain ⟨wo, rfl⟩ : ∃ wo : World, wo = wr := ⟨_, rfl⟩
    by_cases hlt : y < n
    · have hi2 : (y : Int) < (n : Int) := by omega
      go_wp2
      go_loopw [7] (fun b wr' => ∃ x : Nat, x ≤ n ∧ b = .int .i64 x ∧ Hid (NaRel w wr' g n L P (gridTo n y x))) (fun b _ => n - (intOf b).toNat)
      case atStart => exact ⟨0, Nat.zero_le _, rfl, by rw [gridTo_zero]; exact hr⟩
      case round =>
        obtain ⟨x, hxn, rfl, hq⟩ := hrel
        by_cases hlx : x < n
        · obtain ⟨X, a, b, bit, q, u, eX, ea, eb, ha, hb, f1, ⟨f2, f2'⟩, f3, ⟨hc, hf⟩, w2, w3, e2, hc2, hf2, e3, hrel'⟩ := na_step HN.out HG.out HP.out hlt hlx EG.out hq.out
          obtain ⟨blk, off, rfl, hbl, hcL⟩ := H.out y (by have := HN.out; omega)
          obtain ⟨blk', off', rfl, hbl', hcP⟩ := H'.out y (by have := HPL.out; omega)
          obtain ⟨blk2, off2, e2b, hbl2, hcQ⟩ := H'.out x (by have := HPL.out; omega)
          obtain ⟨rfl, rfl⟩ : blk' = blk2 ∧ off' = off2 := by injection e2b with e; injection e with e1 e2; exact ⟨e1, e2⟩
          rw [eX] at hcL
          rw [ea] at hcP
          rw [eb] at hcQ
          have hLw : wr.cell? ⟨blk, off + y, none⟩ = some (.int .i64 X) := (hq.out.2.cell (p := ⟨blk, off + y, none⟩) hbl).trans hcL
          have hPw : wr.cell? ⟨blk', off' + y, none⟩ = some (.int .i64 a) := (hq.out.2.cell (p := ⟨blk', off' + y, none⟩) hbl').trans hcP
          have hQw : wr.cell? ⟨blk', off' + x, none⟩ = some (.int .i64 b) := (hq.out.2.cell (p := ⟨blk', off' + x, none⟩) hbl').trans hcQ
          have hi1 : (0 : Int) ≤ (y : Int) ∧ (y : Int) < (n : Int) := by omega
          have hi3 : (0 : Int) ≤ (x : Int) ∧ (x : Int) < (n : Int) := by omega
          have hi4 : (0 : Int) ≤ (a : Int) ∧ (a : Int) < (n : Int) := by omega
          have E2 := Lib.hid e2
          have E3 := Lib.hid e3
          clear hq e2 e3 hbl hbl' hbl2 hcL hcP hcQ e2b eX ea eb
          go_wp2
          go_still_tail 26, (by kernel_rfl)
          change wpList _ _ _ _ _ wr.drew
          rw [← E2.out]
          go_wp2
          rw [← E3.out]
          clear f1 f2 f3 f2' hc hf hc2 hf2 hLw hPw hQw
          go_roundw
          case rel => exact ⟨x + 1, by omega, by go_num, Lib.hid hrel'.out⟩
          case measure => simp [intOf]; omega
        · have hxe : x = n := by omega
          subst hxe
          go_wp2
          go_roundw
          case rel => exact ⟨y + 1, by omega, by go_num, Lib.hid (by have h0 := hq.out; rw [gridTo_end] at h0; exact h0)⟩
          case measure => simp [intOf]; omega
    · have hye : y = n := by omega
      subst hye
      go_wp2
      go_ret
      exact ⟨_, rfl, hr.out.1, hr.out.2⟩

end Go.Proofs.YtjkepoalepmjoaaDoor

/- Names by the model: l1Names. -/


namespace Go.Proofs.YtjkepoalepmjoaaDoor
open Go.RowKit
set_option linter.unusedVariables false

set_option maxHeartbeats 2000000 in
theorem specNames_any (A : Option Addr) (c n : Nat) (P : List Int) (b : Bool) (hb : b = true ↔ IsNames P n) (w : World) (h : Seen w A P) (h1 : 1 ≤ n) (h6 : n ≤ 6) (hl : P.length ≤ 1048576) :
    Calls Tryd.prog 69 #[.slice A P.length c, .int .i64 n] w (Looked w b) := by
  obtain ⟨m, hm⟩ : ∃ m, m = P.length := ⟨_, rfl⟩
  rw [← hm] at hl ⊢
  have HM := Lib.hid hm
  have H := Lib.hid h
  have HB := Lib.hid hb
  clear h hb hm
  go_enter Tryd.func69, Tryd.ntmps69
  go_wp2
  go_loopw [5, 6] (fun s i wr => ∃ q k d : Nat, q < 64 ∧ k ≤ m ∧ s = .int .i64 q ∧ i = .int .i64 k ∧ Hid ((∀ u, u < k → InN P n u) ∧ seenOf ((natOf P).take k) = q) ∧ wr = w.drewN d) (fun _ i _ => m - (intOf i).toNat)
  case atStart => exact ⟨0, 0, 0, by omega, Nat.zero_le _, rfl, rfl, Lib.hid ⟨fun u hu => absurd hu (by omega), by simp [seenOf]⟩, rfl⟩
  case round =>
    obtain ⟨q, k, d, hq, hk, rfl, rfl, hok, ew⟩ := hrel
    have EW := Lib.hid ew
    by_cases hlt : k < m
    · obtain ⟨blk, off, rfl, hbl, hc⟩ := H.out k (by have := HM.out; omega)
      have hcw : wr.cell? ⟨blk, off + k, none⟩ = some (.int .i64 (P[k]?.getD 0)) := by rw [ew]; exact hc
      have hi1 : (0 : Int) ≤ (k : Int) ∧ (k : Int) < (m : Int) := by omega
      clear hc hbl ew
      obtain ⟨x, ex⟩ : ∃ x, x = P[k]?.getD 0 := ⟨_, rfl⟩
      rw [← ex] at hcw
      have EX := Lib.hid ex
      clear ex
      by_cases hin : 0 ≤ x ∧ x ≤ (n : Int) - 1
      · obtain ⟨y, ey⟩ : ∃ y : Nat, x = (y : Int) := ⟨x.toNat, by omega⟩
        have hy : y < n := by omega
        have hy6 : y < 6 := by omega
        subst ey
        have hN1 : ((n : Int) - 1) = ((n - 1 : Nat) : Int) := by omega
        have hp64 := bit_pow (bit := 1) (k := y) (by omega) hy6
        rw [Nat.one_mul] at hp64
        have w1 := wrap_pow y (by omega)
        obtain ⟨p, ep⟩ : ∃ p, p = 2 ^ y := ⟨_, rfl⟩
        rw [← ep] at w1 hp64
        have f1 := i64_or_nat q p (by omega) (by omega)
        have hqp : q ||| p < 64 := Nat.or_lt_two_pow (n := 6) hq hp64
        have EP := Lib.hid ep
        have HK : Hid ((∀ u, u < k + 1 → InN P n u) ∧ seenOf ((natOf P).take (k + 1)) = q ||| p) := Lib.hid (by
          obtain ⟨o1, o2⟩ := hok.out
          refine ⟨fun u hu => ?_, ?_⟩
          · rcases Nat.lt_succ_iff_lt_or_eq.1 hu with h | h
            · exact o1 u h
            · subst h; unfold InN; rw [← EX.out]; omega
          · rw [natOf_take P k (by have := HM.out; omega), seenOf_snoc, o2, ← EX.out, EP.out]; rfl)
        have hd : decide ((0 : Int) ≤ (y : Int) ∧ (y : Int) ≤ ((n - 1 : Nat) : Int)) = true := by simp; omega
        clear hok ep hin
        go_wp2_with fail
        refine (in_any _ _ _ _).mono ?_
        rw [hd]
        rintro e w1 ⟨rfl, rfl⟩
        go_wp2
        go_roundw
        case rel => exact ⟨q ||| p, k + 1, d, hqp, by omega, rfl, by go_num, HK, EW.out⟩
        case measure => simp [intOf]; omega
      · have hN1 : ((n : Int) - 1) = ((n - 1 : Nat) : Int) := by omega
        have hd : decide ((0 : Int) ≤ x ∧ x ≤ ((n - 1 : Nat) : Int)) = false := by rw [decide_eq_false_iff_not, ← hN1]; exact hin
        have hno : ¬ IsNames P n := fun hg => hin (by
          have h0 := hg.2.1 k (by have := HM.out; omega)
          unfold InN at h0; rw [← EX.out] at h0; omega)
        clear hok hin
        go_wp2_with fail
        refine (in_any _ _ _ _).mono ?_
        rw [hd]
        rintro e w1 ⟨rfl, rfl⟩
        go_wp2
        go_ret
        have hbf : b = false := by
          cases b with
          | false => rfl
          | true => exact absurd (HB.out.1 rfl) hno
        exact ⟨ret_bool hbf.symm, d, EW.out⟩
    · have hkm : k = m := by omega
      subst hkm
      obtain ⟨o1, o2⟩ := hok.out
      have hln : (natOf P).length = k := by simp [natOf]; exact HM.out.symm
      rw [← hln, List.take_length] at o2
      have ht := names_tell (P := P) (n := n) (fun u hu => o1 u (by have := HM.out; omega))
      rw [← HM.out, o2] at ht
      have hsh : wrap64 ((2 : Int) ^ n) = ((2 ^ n : Nat) : Int) := wrap_pow n (by omega)
      obtain ⟨Q, hQ⟩ : ∃ Q, Q = 2 ^ n := ⟨2 ^ n, rfl⟩
      have hQ64 : Q ≤ 64 := by rw [hQ]; exact pow_le n 6 h6
      have hQ0 : 0 < Q := by rw [hQ]; exact Nat.two_pow_pos n
      rw [← hQ] at ht hsh
      have hbb := HB.out.trans ht.symm
      have HBB := Lib.hid hbb
      clear o1 o2 hln ht hok hQ hbb
      have hQ1 : ((Q : Int) - 1) = ((Q - 1 : Nat) : Int) := by omega
      by_cases hc1 : k = n
      · have hd1 : ((k : Int) == (n : Int)) = true := by simp [hc1]
        go_wp2
        go_ret
        refine ⟨ret_bool ?_, d, rfl⟩
        rw [Bool.eq_iff_iff, HBB.out]
        simp
        omega
      · have hd1 : ((k : Int) == (n : Int)) = false := by simp; omega
        go_wp2
        go_ret
        refine ⟨ret_bool ?_, d, rfl⟩
        rw [Bool.eq_iff_iff, HBB.out]
        simp
        omega
end Go.Proofs.YtjkepoalepmjoaaDoor

/- Names by the program: areNames. -/

namespace Go.Proofs.YtjkepoalepmjoaaDoor
open Go.RowKit
set_option linter.unusedVariables false

theorem seen_test (P : List Nat) (x : Nat) : seenOf P / 2 ^ x % 2 = 1 ↔ x ∈ P := by
  rw [← seenOf_bit, Nat.testBit_eq_decide_div_mod_eq, decide_eq_true_eq]
theorem not_nodup {P : List Int} {k : Nat} (hk : k < P.length) (h : (P[k]?.getD 0).toNat ∈ (natOf P).take k) : ¬ (natOf P).Nodup := fun hn => by
  have h2 : ((natOf P).take (k + 1)).Nodup := hn.sublist (List.take_sublist _ _)
  rw [natOf_take P k hk, List.nodup_append] at h2
  exact h2.2.2 _ h _ (by simp) rfl

set_option maxHeartbeats 2000000 in
theorem areNames_any (A : Option Addr) (c n : Nat) (P : List Int) (b : Bool) (hb : b = true ↔ IsNames P n) (w : World) (h : Seen w A P) (h1 : 1 ≤ n) (h6 : n ≤ 6) (hl : P.length ≤ 1048576) :
    Calls Tryd.prog 67 #[.slice A P.length c, .int .i64 n] w (Looked w b) := by
  obtain ⟨m, hm⟩ : ∃ m, m = P.length := ⟨_, rfl⟩
  rw [← hm] at hl ⊢
  have HM := Lib.hid hm
  have H := Lib.hid h
  have HB := Lib.hid hb
  clear h hb hm
  by_cases hmn : m = n
  · have hd1 : ((m : Int) == (n : Int)) = true := by simp [hmn]
    go_enter Tryd.func67, Tryd.ntmps67
    go_wp2
    go_loopw [5, 14] (fun s i wr => ∃ q k : Nat, q < 64 ∧ k ≤ m ∧ s = .int .i64 q ∧ i = .int .i64 k ∧ Hid (((∀ u, u < k → InN P n u) ∧ ((natOf P).take k).Nodup) ∧ seenOf ((natOf P).take k) = q) ∧ wr = w) (fun _ i _ => m - (intOf i).toNat)
    case atStart => exact ⟨0, 0, by omega, Nat.zero_le _, rfl, rfl, Lib.hid ⟨⟨fun u hu => absurd hu (by omega), by simp⟩, by simp [seenOf]⟩, rfl⟩
    case round =>
      obtain ⟨q, k, hq, hk, rfl, rfl, hok, rfl⟩ := hrel
      by_cases hlt : k < m
      · obtain ⟨blk, off, rfl, hbl, hcw⟩ := H.out k (by have := HM.out; omega)
        have hi1 : (0 : Int) ≤ (k : Int) ∧ (k : Int) < (m : Int) := by omega
        clear hbl
        obtain ⟨x, ex⟩ : ∃ x, x = P[k]?.getD 0 := ⟨_, rfl⟩
        rw [← ex] at hcw
        have EX := Lib.hid ex
        clear ex
        have fail_ : ¬ IsNames P n → b = false := fun hno => by
          cases b with
          | false => rfl
          | true => exact absurd (HB.out.1 rfl) hno
        have FA := Lib.hid fail_
        clear fail_
        by_cases hneg : x < 0
        · have hd : decide (x < 0) = true := decide_eq_true hneg
          have hno : ¬ IsNames P n := fun hg => by
            have h0 := hg.2.1 k (by have := HM.out; omega)
            unfold InN at h0; rw [← EX.out] at h0; omega
          clear hok
          go_wp2
          go_ret
          exact ⟨ret_bool (FA.out hno).symm, 0, rfl⟩
        · have hd : decide (x < 0) = false := decide_eq_false hneg
          by_cases hbig : (n : Int) ≤ x
          · have hd2 : decide ((n : Int) ≤ x) = true := decide_eq_true hbig
            have hno : ¬ IsNames P n := fun hg => by
              have h0 := hg.2.1 k (by have := HM.out; omega)
              unfold InN at h0; rw [← EX.out] at h0; omega
            clear hok
            go_wp2
            go_ret
            exact ⟨ret_bool (FA.out hno).symm, 0, rfl⟩
          · have hd2 : decide ((n : Int) ≤ x) = false := decide_eq_false hbig
            obtain ⟨y, ey⟩ : ∃ y : Nat, x = (y : Int) := ⟨x.toNat, by omega⟩
            have hy : y < n := by omega
            have hy6 : y < 6 := by omega
            subst ey
            obtain ⟨bit, eb, hb1, f0⟩ := and_facts q y (Nat.lt_trans hq (by decide))
            have hst := seen_test ((natOf P).take k) y
            rw [hok.out.2, ← eb] at hst
            have hkP : k < P.length := by have := HM.out; omega
            by_cases hbit : bit = 1
            · have hno : ¬ IsNames P n := fun hg => not_nodup hkP (by rw [← EX.out]; exact hst.1 hbit) hg.2.2
              subst hbit
              clear hok hst eb
              go_wp2
              go_ret
              exact ⟨ret_bool (FA.out hno).symm, 0, rfl⟩
            · have hb0 : bit = 0 := by omega
              subst hb0
              have hnm : y ∉ (natOf P).take k := fun hm => hbit (hst.2 hm)
              have hp64 := bit_pow (bit := 1) (k := y) (by omega) hy6
              rw [Nat.one_mul] at hp64
              have w1 := wrap_pow y (by omega)
              obtain ⟨p, ep⟩ : ∃ p, p = 2 ^ y := ⟨_, rfl⟩
              rw [← ep] at w1 hp64
              have f1 := i64_or_nat q p (Nat.lt_trans hq (by decide)) (Nat.lt_trans hp64 (by decide))
              have hqp : q ||| p < 64 := Nat.or_lt_two_pow (n := 6) hq hp64
              have EP := Lib.hid ep
              have HK : Hid (((∀ u, u < k + 1 → InN P n u) ∧ ((natOf P).take (k + 1)).Nodup) ∧ seenOf ((natOf P).take (k + 1)) = q ||| p) := Lib.hid (by
                obtain ⟨⟨o1, o3⟩, o2⟩ := hok.out
                refine ⟨⟨fun u hu => ?_, ?_⟩, ?_⟩
                · rcases Nat.lt_succ_iff_lt_or_eq.1 hu with h | h
                  · exact o1 u h
                  · subst h; unfold InN; rw [← EX.out]; omega
                · rw [natOf_take P k hkP, List.nodup_append, ← EX.out]
                  refine ⟨o3, by simp, fun a ha b hb e => hnm ?_⟩
                  simp at hb
                  subst hb
                  rw [← e]; exact ha
                · rw [natOf_take P k hkP, seenOf_snoc, o2, ← EX.out, EP.out]; rfl)
              clear hok ep hst eb hnm
              go_wp2
              go_roundw
              case rel => exact ⟨q ||| p, k + 1, hqp, by omega, rfl, by go_num, HK, trivial⟩
              case measure => simp [intOf]; omega
      · have hkm : k = m := by omega
        subst hkm
        have hyes : IsNames P n := by
          obtain ⟨⟨o1, o3⟩, o2⟩ := hok.out
          have hln : (natOf P).length = k := by simp [natOf]; exact HM.out.symm
          rw [← hln, List.take_length] at o3
          exact ⟨by rw [← HM.out]; exact hmn, fun u hu => o1 u (by have := HM.out; omega), o3⟩
        have hbt : b = true := HB.out.2 hyes
        clear hok
        go_wp2
        go_ret
        exact ⟨ret_bool hbt.symm, 0, rfl⟩
  · have hd1 : ((m : Int) == (n : Int)) = false := by simp; omega
    have hno : ¬ IsNames P n := fun hg => hmn (by rw [HM.out]; exact hg.1)
    go_enter Tryd.func67, Tryd.ntmps67
    go_wp2
    go_ret
    have hbf : b = false := by
      cases b with
      | false => rfl
      | true => exact absurd (HB.out.1 rfl) hno
    exact ⟨ret_bool hbf.symm, 0, rfl⟩
end Go.Proofs.YtjkepoalepmjoaaDoor

/- The law FnExactGraphNamed returns true at each two lists, and leaves all that was there as it was. -/




namespace Go.Proofs.YtjkepoalepmjoaaDoor
open Go.RowKit
set_option linter.unusedVariables false


theorem empty_rowN (w : World) : Row (w.alloc (.cells #[] 3)) w.heap.size (.slice (some ⟨w.heap.size, 0, none⟩) 0 0) [] := World.ownsRow_lit (base := w.heap.size) (e := 3) (size := 1) w #[] 0 (Nat.le_refl _) (by unfold maxLen; omega) rfl

set_option maxHeartbeats 1000000 in
theorem specGNamed_first (B B' : Nat) (v v' : Value) (L P : List Int) (hL : ¬ IsGraph L) (w : World) (h : Row w B v L) (h' : Row w B' v' P) :
    Calls Tryd.prog 34 #[v, v'] w (Told w [] false) := by
  have H1 := Lib.hid (specIn_any B v L false ⟨fun h => (by cases h), fun h => absurd h hL⟩ w h)
  clear hL h h'
  go_enter Tryd.func34, Tryd.ntmps34
  go_wp2_with fail
  refine H1.out.mono ?_
  rintro e w1 ⟨rfl, d, rfl⟩
  go_wp2
  go_ret2
  exact ⟨_, rfl, empty_rowN (w.drewN d), (below_drewN (Below.refl _ w) d).alloc (Nat.le_refl _) _⟩
set_option maxHeartbeats 1000000 in
theorem specGNamed_second (B B' : Nat) (v v' : Value) (L P : List Int) (hL : IsGraph L) (hP : ¬ IsNames P L.length) (hl : P.length ≤ 1048576) (w : World) (h : Row w B v L) (h' : Row w B' v' P) :
    Calls Tryd.prog 34 #[v, v'] w (Told w [] false) := by
  have l1 := hL.1
  have l6 := hL.2.1
  have H1 := Lib.hid (specIn_any B v L true ⟨fun _ => hL, fun _ => rfl⟩ w h)
  obtain ⟨A, c, rfl, s1⟩ := h.seen
  obtain ⟨A', c', rfl, s2⟩ := h'.seen
  have S2 := Lib.hid s2
  have H2 := Lib.hid (fun w h => specNames_any A' c' L.length P false ⟨fun h => (by cases h), fun h => absurd h hP⟩ w h l1 l6 hl)
  clear hL hP h h' s1 s2
  go_enter Tryd.func34, Tryd.ntmps34
  go_wp2_with fail
  refine H1.out.mono ?_
  rintro e w1 ⟨rfl, d, rfl⟩
  go_wp2_with fail
  refine (H2.out (w.drewN d) S2.out).mono ?_
  rintro e w2 ⟨rfl, d2, rfl⟩
  go_wp2
  go_ret2
  exact ⟨_, rfl, empty_rowN (w.drewN (d + d2)), (below_drewN (Below.refl _ w) (d + d2)).alloc (Nat.le_refl _) _⟩
set_option maxHeartbeats 1000000 in
theorem specGNamed_both (B B' : Nat) (v v' : Value) (L P : List Int) (hL : IsGraph L) (hP : IsNames P L.length) (w : World) (h : Row w B v L) (h' : Row w B' v' P) :
    Calls Tryd.prog 34 #[v, v'] w (Told w (ints (mrun L L.length (nm P) (grid L.length L.length))) true) := by
  have l1 := hL.1
  have l6 := hL.2.1
  have hl : P.length ≤ 1048576 := by rw [hP.1]; omega
  have H1 := Lib.hid (specIn_any B v L true ⟨fun _ => hL, fun _ => rfl⟩ w h)
  obtain ⟨A, c, rfl, s1⟩ := h.seen
  obtain ⟨A', c', rfl, s2⟩ := h'.seen
  have S1 := Lib.hid s1
  have S2 := Lib.hid s2
  have H2 := Lib.hid (fun w h => specNames_any A' c' L.length P true ⟨fun _ => hP, fun _ => rfl⟩ w h l1 l6 hl)
  have H3 := Lib.hid (fun w h h' => specNamed_seen A A' c c' L P hL hP w h h')
  clear hL hP h h' s1 s2
  go_enter Tryd.func34, Tryd.ntmps34
  go_wp2_with fail
  refine H1.out.mono ?_
  rintro e w1 ⟨rfl, d, rfl⟩
  go_wp2_with fail
  refine (H2.out (w.drewN d) S2.out).mono ?_
  rintro e w2 ⟨rfl, d2, rfl⟩
  go_wp2_with fail
  refine (H3.out (w.drewN (d + d2)) S1.out S2.out).mono ?_
  rintro e w3 ⟨u, rfl, ru, b4⟩
  go_wp2
  go_ret2
  exact ⟨_, rfl, ru, (below_drewN (Below.refl _ w) (d + d2)).trans b4⟩

set_option maxHeartbeats 1000000 in
theorem implGNamed_first (B B' : Nat) (v v' : Value) (L P : List Int) (hL : ¬ IsGraph L) (w : World) (h : Row w B v L) (h' : Row w B' v' P) (hT : Tab w) :
    Calls Tryd.prog 33 #[v, v'] w (Told w [] false) := by
  have H1 := Lib.hid (asG_none B v L hL w h hT)
  clear hL h
  go_enter Tryd.func33, Tryd.ntmps33
  go_wp2_with fail
  refine H1.out.mono ?_
  rintro e w1 ⟨rfl, b1⟩
  go_wp2
  go_ret2
  exact ⟨_, rfl, World.ownsRow_nil w1 w.heap.size 3 1, b1⟩
set_option maxHeartbeats 1000000 in
theorem implGNamed_second (B B' : Nat) (v v' : Value) (L P : List Int) (hL : IsGraph L) (hP : ¬ IsNames P L.length) (hl : P.length ≤ 1048576) (w : World) (h : Row w B v L) (h' : Row w B' v' P) (hT : Tab w) :
    Calls Tryd.prog 33 #[v, v'] w (Told w [] false) := by
  have l1 := hL.1
  have l6 := hL.2.1
  have H1 := Lib.hid (asG_graph B v L hL w h hT)
  obtain ⟨A, c, rfl, s1⟩ := h.seen
  obtain ⟨A', c', rfl, s2⟩ := h'.seen
  have S2 := Lib.hid s2
  have H2 := Lib.hid (fun w h => areNames_any A' c' L.length P false ⟨fun h => (by cases h), fun h => absurd h hP⟩ w h l1 l6 hl)
  clear hL hP h h' s1 s2
  go_enter Tryd.func33, Tryd.ntmps33
  go_wp2_with fail
  refine H1.out.mono ?_
  rintro e w1 ⟨rfl, b1⟩
  go_wp2_with fail
  refine (H2.out w1 (S2.out.below b1)).mono ?_
  rintro e w2 ⟨rfl, d2, rfl⟩
  go_wp2
  go_ret2
  exact ⟨_, rfl, World.ownsRow_nil _ w.heap.size 3 1, below_drewN b1 d2⟩
set_option maxHeartbeats 1000000 in
theorem implGNamed_both (B B' : Nat) (v v' : Value) (L P : List Int) (hL : IsGraph L) (hP : IsNames P L.length) (w : World) (h : Row w B v L) (h' : Row w B' v' P) (hT : Tab w) :
    Calls Tryd.prog 33 #[v, v'] w (Told w (ints (mrun L L.length (nm P) (grid L.length L.length))) true) := by
  have l1 := hL.1
  have l6 := hL.2.1
  have hl : P.length ≤ 1048576 := by rw [hP.1]; omega
  have HE := Lib.hid (named_eq L hL (nm P) (fun v hv => (nm_int hP hv).2) (grid L.length L.length) (grid_all L.length))
  have H1 := Lib.hid (asG_graph B v L hL w h hT)
  obtain ⟨A, c, rfl, s1⟩ := h.seen
  obtain ⟨A', c', rfl, s2⟩ := h'.seen
  have S1 := Lib.hid s1
  have S2 := Lib.hid s2
  have H2 := Lib.hid (fun w h => areNames_any A' c' L.length P true ⟨fun _ => hP, fun _ => rfl⟩ w h l1 l6 hl)
  have H3 := Lib.hid (fun w h h' => callsIn_wide.1 (implNamed_in A A' c c' L P hL hP w h h'))
  clear hL hP h h' s1 s2
  go_enter Tryd.func33, Tryd.ntmps33
  go_wp2_with fail
  refine H1.out.mono ?_
  rintro e w1 ⟨rfl, b1⟩
  go_wp2_with fail
  refine (H2.out w1 (S2.out.below b1)).mono ?_
  rintro e w2 ⟨rfl, d2, rfl⟩
  have b2 := below_drewN b1 d2
  go_wp2_with fail
  refine (H3.out _ (S1.out.below b2) (S2.out.below b2)).mono ?_
  rintro e w3 ⟨u, rfl, ru, b4⟩
  go_wp2
  go_ret2
  exact ⟨_, rfl, by rw [HE.out]; exact ru.mono b2.size, b2.trans (b4.mono b2.size)⟩
end Go.Proofs.YtjkepoalepmjoaaDoor

/- How many members a set of at most six nodes has: by the model, by math/bits. -/


namespace Go.Proofs.YtjkepoalepmjoaaDoor
open Go.RowKit
set_option linter.unusedVariables false

/-- The number of members. -/
def cnt (x : Nat) : Nat := x % 2 + x / 2 % 2 + x / 4 % 2 + x / 8 % 2 + x / 16 % 2 + x / 32 % 2
theorem cnt_step : ∀ x : Fin 64, cnt x.val = x.val % 2 + cnt (x.val / 2) := by decide +kernel

set_option maxHeartbeats 400000 in
theorem size_any (x : Nat) (hx : x < 64) (w : World) : Calls Tryd.prog 86 #[.int .i64 x] w (Num w (cnt x)) := by
  go_enter Tryd.func86, Tryd.ntmps86
  go_wp2
  go_loop [0, 3] (fun s r => ∃ y q : Nat, y < 64 ∧ q ≤ 64 ∧ s = .int .i64 y ∧ r = .int .i64 q ∧ Hid (q + cnt y = cnt x)) (fun s _ => (intOf s).toNat)
  case atStart => exact ⟨x, 0, hx, by omega, rfl, rfl, Lib.hid (by omega)⟩
  case round =>
    obtain ⟨y, q, hy, hq, rfl, rfl, hs⟩ := hrel
    by_cases h0 : 0 < y
    · have hz : decide ((0 : Int) < (y : Int)) = true := by simpa using h0
      have st := cnt_step ⟨y, hy⟩
      dsimp only at st
      have hb := bit_of y 0 (by omega)
      simp only [Nat.pow_zero, Nat.div_one, Int.pow_zero, Int.ediv_one] at hb
      obtain ⟨bit, eb⟩ : ∃ bit, bit = y % 2 := ⟨_, rfl⟩
      rw [← eb] at hb st
      have hbit : bit ≤ 1 := by omega
      obtain ⟨z, ez⟩ : ∃ z, z = y / 2 := ⟨_, rfl⟩
      have hzy : z < y := by omega
      have hd : (y : Int) / 2 = (z : Int) := by omega
      have hcl : cnt x ≤ 6 := by unfold cnt; omega
      have hql : q + bit ≤ 64 := by have := hs.out; omega
      rw [← ez] at st
      have ST := Lib.hid st
      clear st eb ez hcl
      go_wp2
      go_round
      case rel => exact ⟨z, q + bit, by omega, hql, rfl, by go_num, Lib.hid (by have h1 := hs.out; have h2 := ST.out; omega)⟩
      case measure => simp [intOf]; omega
    · have hz : decide ((0 : Int) < (y : Int)) = false := by simp; omega
      have hy0 : y = 0 := by omega
      subst hy0
      go_wp2
      go_ret
      exact ⟨ret_int (by have h1 := hs.out; have h2 : cnt 0 = 0 := rfl; omega), rfl⟩

def v1 (x : Nat) : Nat := ((x / 2) &&& 6148914691236517205) + (x &&& 6148914691236517205)
def v2 (x : Nat) : Nat := ((v1 x / 4) &&& 3689348814741910323) + (v1 x &&& 3689348814741910323)
def v3 (x : Nat) : Nat := (v2 x / 16 + v2 x) &&& 1085102592571150095
theorem ones_facts : ∀ x : Fin 64,
    bits .and .u64 ((x.val : Int) / 2) 6148914691236517205 = (((x.val / 2) &&& 6148914691236517205 : Nat) : Int) ∧ bits .and .u64 (x.val : Int) 6148914691236517205 = ((x.val &&& 6148914691236517205 : Nat) : Int) ∧
    bits .and .u64 ((v1 x.val : Int) / 4) 3689348814741910323 = (((v1 x.val / 4) &&& 3689348814741910323 : Nat) : Int) ∧ bits .and .u64 (v1 x.val : Int) 3689348814741910323 = ((v1 x.val &&& 3689348814741910323 : Nat) : Int) ∧
    bits .and .u64 (((v2 x.val / 16 + v2 x.val : Nat)) : Int) 1085102592571150095 = (v3 x.val : Int) ∧ v3 x.val = cnt x.val ∧ ((x.val / 2) &&& 6148914691236517205) < 100 ∧ (x.val &&& 6148914691236517205) < 100 ∧ ((v1 x.val / 4) &&& 3689348814741910323) < 100 ∧ (v1 x.val &&& 3689348814741910323) < 100 ∧
    bits .and .i64 (cnt x.val : Int) 127 = (cnt x.val : Int) ∧ cnt x.val ≤ 6 := by decide +kernel

set_option maxHeartbeats 1000000 in
theorem ones64 (x : Nat) (hx : x < 64) (w : World) : Calls Tryd.prog 99 #[.int .u64 x] w (Num w (cnt x)) := by
  obtain ⟨f1, f2, f3, f4, f5, f6, l1, l2, l3, l4, f7, l5⟩ := ones_facts ⟨x, hx⟩
  dsimp only at f1 f2 f3 f4 f5 f6 l1 l2 l3 l4 f7 l5
  obtain ⟨a1, e1⟩ : ∃ a, a = (x / 2) &&& 6148914691236517205 := ⟨_, rfl⟩
  obtain ⟨a2, e2⟩ : ∃ a, a = x &&& 6148914691236517205 := ⟨_, rfl⟩
  have s1 : v1 x = a1 + a2 := by unfold v1; rw [e1, e2]
  rw [← e1] at f1 l1
  rw [← e2] at f2 l2
  obtain ⟨b, eb⟩ : ∃ b, b = v1 x := ⟨_, rfl⟩
  rw [← eb] at f3 f4 l3 l4 s1
  obtain ⟨a3, e3⟩ : ∃ a, a = (b / 4) &&& 3689348814741910323 := ⟨_, rfl⟩
  obtain ⟨a4, e4⟩ : ∃ a, a = b &&& 3689348814741910323 := ⟨_, rfl⟩
  have s2 : v2 x = a3 + a4 := by unfold v2; rw [e3, e4, eb]
  rw [← e3] at f3 l3
  rw [← e4] at f4 l4
  obtain ⟨d, ed⟩ : ∃ d, d = v2 x := ⟨_, rfl⟩
  rw [← ed] at f5 s2
  rw [f6] at f5
  obtain ⟨m, em⟩ : ∃ m, m = cnt x := ⟨_, rfl⟩
  rw [← em] at f5 f7 l5 ⊢
  obtain ⟨q, eq⟩ : ∃ q, q = d / 16 + d := ⟨_, rfl⟩
  rw [← eq] at f5
  have g1 : (a1 : Int) + (a2 : Int) = (b : Int) := by omega
  have g2 : (a3 : Int) + (a4 : Int) = (d : Int) := by omega
  have g3 : (d : Int) / 16 + (d : Int) = (q : Int) := by omega
  have g4 : (m : Int) / 256 = 0 := by omega
  have g5 : (m : Int) / 65536 = 0 := by omega
  have g6 : (m : Int) / 4294967296 = 0 := by omega
  have lb : b < 200 := by omega
  have ld : d < 200 := by omega
  clear e1 e2 e3 e4 eb ed em eq s1 s2 f6
  go_enter Tryd.func99, Tryd.ntmps99
  go_wp2
  go_ret
  exact ⟨rfl, rfl⟩
theorem ones_any (x : Nat) (hx : x < 64) (w : World) : Calls Tryd.prog 94 #[.int .u64 x] w (Num w (cnt x)) := by
  go_enter Tryd.func94, Tryd.ntmps94
  go_wp2_with fail
  refine (ones64 x hx _).mono ?_
  rintro e w1 ⟨rfl, rfl⟩
  go_wp2
  go_ret
  exact ⟨rfl, rfl⟩
/-- degree: the number of neighbours. -/
theorem degree_any (b off n c a X : Nat) (w : World) (hX : X < 64) (ha : a < n) (hc : w.cell? ⟨b, off + a, none⟩ = some (.int .i64 X)) :
    Calls Tryd.prog 87 #[.slice (some ⟨b, off, none⟩) n c, .int .i64 a] w (Num w (cnt X)) := by
  have hi1 : (0 : Int) ≤ (a : Int) ∧ (a : Int) < (n : Int) := by omega
  go_enter Tryd.func87, Tryd.ntmps87
  go_wp2_with fail
  refine (ones_any X hX _).mono ?_
  rintro e w1 ⟨rfl, rfl⟩
  go_wp2
  go_ret
  exact ⟨rfl, rfl⟩
end Go.Proofs.YtjkepoalepmjoaaDoor

/- The degrees of a graph by the model, at a seat without the law of GraphDegrees. -/



namespace Go.Proofs.YtjkepoalepmjoaaDoor
open Go.RowKit Go.Shelf
attribute [local go_sem] Oper.semAt_some
set_option linter.unusedVariables false
set_option maxRecDepth 100000

def degL (L : List Int) (k : Nat) : List Int := (List.range k).map fun i => ((cnt (ent L i) : Nat) : Int)
theorem degL_succ (L : List Int) (k : Nat) : degL L (k + 1) = degL L k ++ [((cnt (ent L k) : Nat) : Int)] := by simp [degL, List.range_succ]
theorem degL_length (L : List Int) (k : Nat) : (degL L k).length = k := by simp [degL]

set_option maxHeartbeats 1000000 in
theorem specDegrees_seen (A : Option Addr) (c : Nat) (L : List Int) (hg : IsGraph L) (w : World) (h : Seen w A L) :
    Calls Tryd.prog 60 #[.slice A L.length c] w (Gave w (degL L L.length)) := by
  have h1 := hg.1
  have h6 := hg.2.1
  obtain ⟨n, hn⟩ : ∃ n, n = L.length := ⟨_, rfl⟩
  rw [← hn] at h1 h6 ⊢
  have HN := Lib.hid hn
  have H := Lib.hid h
  have HG := Lib.hid hg
  have R0 := Lib.hid (World.ownsRow_lit (base := w.heap.size) (e := 3) (size := 1) w #[] 0 (Nat.le_refl _) (by unfold maxLen; omega) rfl)
  have B0 := Lib.hid ((Below.refl w.heap.size w).alloc (Nat.le_refl _) (.cells #[] 3))
  clear h hg hn
  go_enter Tryd.func60, Tryd.ntmps60
  go_wp2
  go_loopw [3, 4] (fun v i wr => ∃ k : Nat, k ≤ n ∧ i = .int .i64 k ∧ Hid (Row wr w.heap.size v (degL L k)) ∧ Hid (Below w.heap.size w wr)) (fun _ i _ => n - (intOf i).toNat)
  case atStart => exact ⟨0, Nat.zero_le _, rfl, R0, B0⟩
  case round =>
    obtain ⟨k, hk, rfl, hr, hb⟩ := hrel
    by_cases hlt : k < n
    · obtain ⟨blk, off, rfl, hbl, hc⟩ := H.out k (by have := HN.out; omega)
      have hin := (HG.out.2.2 k (by have := HN.out; omega)).1
      have hX := ent_int hin
      have hXl := ent_lt hin
      have h64 := two_le (n := L.length) (by have := HN.out; omega)
      obtain ⟨X, eX⟩ : ∃ X, X = ent L k := ⟨_, rfl⟩
      rw [← eX] at hX hXl
      rw [hX] at hc
      have hX64 : X < 64 := by omega
      have hcw : wr.cell? ⟨blk, off + k, none⟩ = some (.int .i64 X) := (hb.out.cell (p := ⟨blk, off + k, none⟩) hbl).trans hc
      have hi1 : (0 : Int) ≤ (k : Int) ∧ (k : Int) < (n : Int) := by omega
      have hlen1 : (degL L k).length ≤ 100000 := by rw [degL_length]; omega
      have EX := Lib.hid eX
      have HLN := Lib.hid hlen1
      have HW := Lib.hid hb.out.size
      clear hc hbl eX hin hX hXl h64 hlen1
      go_wp2_with (first
        | (go_at_call 86; refine (size_any X hX64 _).mono ?_; rintro e w' ⟨rfl, rfl⟩)
        | (at_builtin; refine append_one rfl (.tmp 12) (.tmp 18) rfl wr w.heap.size u3 (degL L k) ((cnt X : Nat) : Int) rfl rfl hr.out HW.out HLN.out ?_; intro v' w' hr' hb'))
      go_roundw
      case rel => exact ⟨k + 1, by omega, by go_num, Lib.hid (by rw [degL_succ, ← EX.out]; exact hr'.out), Lib.hid (hb.out.trans hb'.out)⟩
      case measure => simp [intOf]; omega
    · have hkn : k = n := by omega
      subst hkn
      go_wp2
      go_ret
      exact ⟨_, rfl, hr.out, hb.out⟩

/-- Some places set. -/
def dsets (L : List Int) (ps : List Nat) : List Nat := ps.foldl (fun acc v => acc.set v (cnt (ent L v))) (List.replicate L.length 0)
theorem dsets_snoc (L : List Int) (ps : List Nat) (v : Nat) : dsets L (ps ++ [v]) = (dsets L ps).set v (cnt (ent L v)) := by simp [dsets]
theorem dsets_length (L : List Int) (ps : List Nat) : (dsets L ps).length = L.length := by
  induction ps using snoc_ind with
  | h0 => simp [dsets]
  | h1 l x ih => rw [dsets_snoc, List.length_set, ih]
theorem dsets_range (L : List Int) (k : Nat) (hk : k ≤ L.length) : dsets L (List.range k) = (List.range k).map (fun i => cnt (ent L i)) ++ List.replicate (L.length - k) 0 := by
  induction k with
  | zero => simp [dsets]
  | succ k ih =>
    rw [List.range_succ, dsets_snoc, ih (by omega)]
    have hl : ((List.range k).map (fun i => cnt (ent L i))).length = k := by simp
    have e : L.length - k = (L.length - (k + 1)) + 1 := by omega
    rw [List.set_append_right _ _ (by omega), hl, Nat.sub_self, e, List.replicate_succ, List.set_cons_zero]
    simp
theorem dsets_all (L : List Int) : ints (dsets L (List.range L.length)) = degL L L.length := by
  rw [dsets_range L L.length (Nat.le_refl _), Nat.sub_self, List.replicate_zero, List.append_nil]
  unfold ints degL
  rw [List.map_map]
  rfl
theorem nodes_all : ∀ n : Fin 7, nodesL (2 ^ n.val - 1) = List.range n.val := by decide

def DegI (n₀ g n : Nat) (S : Value) (L : List Int) (Q : Nat) (pre : List (Nd n Q)) (W : World) : Prop :=
  Boxed W n₀ 40 S ∧ Boxed W (n₀ + 1 + 1) 23 (.slice (some ⟨g, 0, none⟩) n n) ∧ Row W n₀ (.slice (some ⟨g, 0, none⟩) n n) (ints (dsets L (valsN pre)))
theorem degI_own (n₀ g n : Nat) (S : Value) (L : List Int) (Q : Nat) : Own (DegI n₀ g n S L Q) := fun s X Y row hs hg hr =>
  ⟨boxed_own _ _ (fun _ : Unit => _) () X Y row hs.1 hg hr, boxed_own _ _ (fun _ : Unit => _) () X Y row hs.2.1 hg hr, row_kept hs.2.2 hg hr⟩

set_option maxHeartbeats 4000000 in
theorem implDegrees_in (A : Option Addr) (c : Nat) (L : List Int) (hg : IsGraph L) (w : World) (h : Seen w A L) (hT : Tab w) :
    CallsIn Fence.wide 6 Tryd.prog 59 #[.slice A L.length c] w (Gave w (degL L L.length)) := by
  have h1 := hg.1
  have h6 := hg.2.1
  obtain ⟨blk, off, hA0, hbl0, _⟩ := h 0 (by omega)
  obtain ⟨n, hn⟩ : ∃ n, n = L.length := ⟨_, rfl⟩
  have hp := two_pos n
  obtain ⟨Q, hQ⟩ : ∃ Q, Q + 1 = 2 ^ n := ⟨2 ^ n - 1, by omega⟩
  have hmk := run_make_ints n (by omega)
  have hms : ∀ x, (madeW x n).heap.size = x.heap.size + 1 := fun x => madeW_size x n
  rw [← hn] at h1 h6 ⊢
  subst hA0
  have X0 : Boxed (madeW (w.alloc (.cells #[.slice (some ⟨blk, off, none⟩) n c] 40)) n) w.heap.size 40 (.slice (some ⟨blk, off, none⟩) n c) := (Boxed.new w _ _).alloc _
  have x0 := X0.cell
  have HN := Lib.hid hn
  have H := Lib.hid h
  have HG := Lib.hid hg
  have HQ := Lib.hid hQ
  have TB := Lib.hid hT
  clear h hg hn hQ hT hp
  refine callsIn_of_wp_marks Tryd.func59 rfl trivial ?_ rfl
  simp only [Tryd.ntmps59, List.size_toArray, List.length_cons, List.length_nil, Nat.reduceAdd, Nat.reduceSub, Array.replicate_succ, Array.replicate_zero, List.push_toArray, List.append_toArray, List.nil_append, List.cons_append]
  gi_wp2_with (refine ⟨trivial, ?_⟩; gi_at_call 79; refine (callsIn_wide.2 (nodes_any _ n c Q h6 HQ.out _)).mono ?_; rintro e w' ⟨rfl, rfl⟩)
  have R0 := madeW_row (w.alloc (.cells #[.slice (some ⟨blk, off, none⟩) n c] 40)) n (by omega)
  have M0 := madeW_below (w.alloc (.cells #[.slice (some ⟨blk, off, none⟩) n c] 40)) n
  have S0 := hms (w.alloc (.cells #[.slice (some ⟨blk, off, none⟩) n c] 40))
  clear hmk hms x0
  obtain ⟨w1, e1⟩ : ∃ w1, w1 = madeW (w.alloc (.cells #[.slice (some ⟨blk, off, none⟩) n c] 40)) n := ⟨_, rfl⟩
  rw [← e1] at R0 M0 S0 X0 ⊢
  rw [World.size_alloc] at R0 M0 S0
  have hB1 : Below w.heap.size w w1 := ((Below.refl _ w).alloc (Nat.le_refl _) _).trans (M0.mono (by omega))
  clear e1
  obtain ⟨W, eW⟩ : ∃ W, W = (w1.alloc (.cells #[.slice (some ⟨w.heap.size + 1, 0, none⟩) n n] 23)).alloc (.cells #[.int .i64 (Q : Nat)] 3) := ⟨_, rfl⟩
  have sW : W.heap.size = w.heap.size + 1 + 1 + 1 + 1 := by rw [eW]; simp [S0]
  have hBW : Below w.heap.size w W := by rw [eW]; exact (hB1.alloc (by omega) _).alloc (by simp; omega) _
  have b0 : Boxed W w.heap.size 40 (.slice (some ⟨blk, off, none⟩) n c) := by rw [eW]; exact (X0.alloc _).alloc _
  have b2 : Boxed W (w.heap.size + 1 + 1) 23 (.slice (some ⟨w.heap.size + 1, 0, none⟩) n n) := by
    rw [eW]; have h := Boxed.new w1 23 (.slice (some ⟨w.heap.size + 1, 0, none⟩) n n); rw [S0] at h; exact h.alloc _
  have b4 : W.cell? ⟨w.heap.size + 1 + 1 + 1, 0, none⟩ = some (.int .i64 (Q : Nat)) := by
    rw [eW]; have h := Boxed.new (w1.alloc (.cells #[.slice (some ⟨w.heap.size + 1, 0, none⟩) n n] 23)) 3 (.int .i64 (Q : Nat)); rw [World.size_alloc, S0] at h; exact h.cell
  have r0 : Row W w.heap.size (.slice (some ⟨w.heap.size + 1, 0, none⟩) n n) (ints (List.replicate n 0)) := by
    rw [eW]; exact (((R0.mono (by omega)).alloc _).alloc _)
  rw [← eW]
  clear eW S0 X0 R0 M0 hB1
  obtain ⟨n₀, en⟩ : ∃ n₀, n₀ = w.heap.size := ⟨_, rfl⟩
  have h2 : 2 ≤ n₀ := by have := TB.out.lt; omega
  rw [← en] at sW hBW b0 b2 b4 r0 hbl0 ⊢
  have EN := Lib.hid en
  have SW := Lib.hid sW
  have hle : n₀ ≤ w.heap.size := by omega
  have hleW : n₀ + 1 + 1 + 1 < W.heap.size := by omega
  clear en sW
  have hQ2 : Q < 2 ^ n := by have := HQ.out; omega
  have hT1 : Tab W := TB.out.below hBW h2
  have r1 : Row W n₀ (.slice (some ⟨n₀ + 1, 0, none⟩) n n) (ints (dsets L [])) := by rw [HN.out]; rw [HN.out] at r0; exact r0
  have hgn : n₀ + 1 < W.heap.size := by omega
  refine wpIn_rangeFunc_ownF (α := Nd n Q) rfl (by omega) (gf := 90) (lb := #[.pointer (some ⟨n₀ + 1 + 1 + 1, 0, none⟩)]) rfl trivial (enters_of Tryd.func90 (by kernel_rfl) rfl)
    (nodes_stops _ (n₀ + 1 + 1 + 1) n Q n₀ (by omega) h6 hQ2 W hleW b4 hT1 h2 (by omega)) belowK_t (belowK_b (by omega)) (Below.refl _ _) (fun _ => rfl)
    (fun pre W => DegI n₀ (n₀ + 1) n (.slice (some ⟨blk, off, none⟩) n c) L Q pre W ∧ Below n₀ w W) (fun _ _ _ => False)
    (OwnFrom.and (Own.from (degI_own _ _ _ _ _ _) _) (ownFrom_below hle (by omega))) (fun _ _ _ _ _ hs _ _ => hs)
    ⟨⟨b0, b2, r1⟩, hBW⟩
    (fun x => { tmps := #[.slice (some ⟨blk, off, none⟩) n c, .pointer (some ⟨n₀, 0, none⟩), .slice none 0 0, .pointer (some ⟨n₀ + 1 + 1, 0, none⟩), .int .i64 (x.1 : Int), .slice (some ⟨blk, off, none⟩) n c, .int .i64 n, .slice (some ⟨n₀ + 1, 0, none⟩) n n, .slice (some ⟨blk, off, none⟩) n c,
      .func (.func 90) #[] #[.pointer (some ⟨n₀ + 1 + 1 + 1, 0, none⟩)], .int .i64 (x.1 : Int), undef, undef, undef, undef, undef, undef, undef], defers := [] }) ?assign ?body ?done ?stop
  case assign =>
    intro l x W K hK
    gi_wp2
    exact hK
  case body =>
    rintro l pre x Wr ⟨⟨c0, c2, hr⟩, hB⟩ hlen
    obtain ⟨v, hvn, hvq⟩ := x
    dsimp only at hvn ⊢
    have hvL : v < L.length := by have := HN.out; omega
    obtain ⟨blk1, off1, hA1, hbl1, hc1⟩ := H.out v hvL
    have e1 : blk = blk1 ∧ off = off1 := by injection hA1 with e; injection e with e1 e2; exact ⟨e1, e2⟩
    obtain ⟨rfl, rfl⟩ := e1
    have hin := (HG.out.2.2 v hvL).1
    have hX := ent_int hin
    have hXl := ent_lt hin
    have h64 := two_le (n := L.length) (by have := HN.out; omega)
    obtain ⟨X, eX⟩ : ∃ X, X = ent L v := ⟨_, rfl⟩
    rw [← eX] at hX hXl
    rw [hX] at hc1
    have hX64 : X < 64 := by omega
    have hcv : Wr.cell? ⟨blk, off + v, none⟩ = some (.int .i64 X) := (hB.cell (p := ⟨blk, off + v, none⟩) hbl0).trans hc1
    obtain ⟨z, ez⟩ : ∃ z, z = cnt X := ⟨_, rfl⟩
    have hlen2 : v < (ints (dsets L (valsN pre))).length := by rw [ints_length, dsets_length]; exact hvL
    obtain ⟨old, eo⟩ : ∃ old, old = (ints (dsets L (valsN pre)))[v]?.getD 0 := ⟨_, rfl⟩
    have hgc : Wr.cell? ⟨n₀ + 1, v, none⟩ = some (.int .i64 old) := by rw [eo]; exact hr.cellAt v hlen2
    have hgf : Wr.frozen? ⟨n₀ + 1, v, none⟩ = false := hr.frozenAt v hlen2
    have rs := hr.set v hlen2 (z : Int)
    rw [ints_set] at rs
    have es : (dsets L (valsN pre)).set v z = dsets L (valsN (pre ++ [(⟨v, hvn, hvq⟩ : Nd n Q)])) := by rw [valsN_snoc, dsets_snoc, ez, eX]
    rw [es] at rs
    have RS := Lib.hid rs
    have HR := Lib.hid hr
    have C0 := Lib.hid c0
    have C2 := Lib.hid c2
    have z0 := c0.cell
    have z2 := c2.cell
    have hi1 : (0 : Int) ≤ (v : Int) ∧ (v : Int) < (n : Int) := by omega
    have hmx : Tryd.prog.follows .mixedOrders = true := by kernel_rfl
    have EZ := Lib.hid ez
    clear c0 c2 hr rs es eo hlen2 eX hA1 hbl1 hc1 hvL hin hX hXl h64 ez
    have gk := grown_drew (grown_set (World.grownBy.refl Wr (some (n₀ + 1))) v (.int .i64 (z : Int)))
    have FIN := Lib.hid (show KeepsOthers Wr (Wr.setCell ⟨n₀ + 1, v, none⟩ (.int .i64 (z : Int))).drew ∧ Below n₀ Wr (Wr.setCell ⟨n₀ + 1, v, none⟩ (.int .i64 (z : Int))).drew ∧
      (DegI n₀ (n₀ + 1) n (.slice (some ⟨blk, off, none⟩) n c) L Q (pre ++ [(⟨v, hvn, hvq⟩ : Nd n Q)]) (Wr.setCell ⟨n₀ + 1, v, none⟩ (.int .i64 (z : Int))).drew ∧ Below n₀ w (Wr.setCell ⟨n₀ + 1, v, none⟩ (.int .i64 (z : Int))).drew) from
      ⟨(KeepsOthers.setCell _ _ _).trans (KeepsOthers.drew _), ((Below.refl n₀ Wr).setCell (p := ⟨n₀ + 1, v, none⟩) (by show n₀ ≤ n₀ + 1; omega) _).drew,
        ⟨C0.out.kept gk (fun e => by injection e; omega), C2.out.kept gk (fun e => by injection e; omega), RS.out⟩, (hB.setCell (p := ⟨n₀ + 1, v, none⟩) (by show n₀ ≤ n₀ + 1; omega) _).drew⟩)
    clear gk
    gi_wp2
    have HD := fun (w : World) (hc : w.cell? ⟨blk, off + v, none⟩ = some (.int .i64 X)) => degree_any blk off n c v X w hX64 hvn hc
    rw [← EZ.out] at HD
    have HDD := Lib.hid HD
    clear HD
    gi_region_with_o (refine ⟨trivial, ?_⟩; gi_at_call 87; refine (CallsIn.inRound l (callsIn_wide.2 (HDD.out Wr.drew hcv))).mono ?_; rintro e w' ⟨rfl, rfl⟩)
    all_goals gi_wp2
    all_goals (try go_bits)
    all_goals exact FIN.out
  case done =>
    rintro D xs Wr hD hS ⟨⟨c0, c2, hr⟩, hB⟩ hK
    have z2 := c2.cell
    have HS := Lib.hid hS
    have HR := Lib.hid hr
    clear hS hr
    gi_wp2
    refine ⟨by simp, .inl ⟨_, _, rfl, run_takeDeferred hK, ?_⟩⟩
    refine ⟨_, results_tmp rfl _ _ _, ?_⟩
    refine ⟨_, rfl, ?_, ?_⟩
    · rw [← EN.out]
      have h0 := ownsRow_putObj HR.out (.deferred none) hK rfl
      have e : ints (dsets L (valsN xs)) = degL L n := by
        rw [HS.out]
        have e2 : Q = 2 ^ n - 1 := by have := HQ.out; omega
        have e3 := nodes_all ⟨n, by omega⟩
        dsimp only at e3
        rw [e2, e3, HN.out, dsets_all]
      rw [e] at h0
      exact h0
    · rw [← EN.out]
      exact hB.trans (belowK_b (w := w) hle Wr D _ _ (by have := EN.out; omega) hK rfl rfl)
  case stop =>
    rintro D cd pre W _ _ h _
    exact h.elim

end Go.Proofs.YtjkepoalepmjoaaDoor

/- The degrees of a graph: by the model, by the program. -/




namespace Go.Proofs.YtjkepoalepmjoaaDoor
open Go.RowKit Go.Shelf
set_option linter.unusedVariables false

theorem specGraphDegrees_yes (B : Nat) (v : Value) (L : List Int) (hg : IsGraph L) (w : World) (h : Row w B v L) :
    Calls Tryd.prog 28 #[v] w (Told w (degL L L.length) true) := by
  have H1 := Lib.hid (specIn_any B v L true ⟨fun _ => hg, fun _ => rfl⟩ w h)
  obtain ⟨A, c, rfl, hs⟩ := h.seen
  have H2 := Lib.hid (fun w hs => specDegrees_seen A c L hg w hs)
  clear hg h
  go_enter Tryd.func28, Tryd.ntmps28
  go_wp2_with fail
  refine H1.out.mono ?_
  rintro e w1 ⟨rfl, d, rfl⟩
  go_wp2_with fail
  refine (H2.out (w.drewN d) hs).mono ?_
  rintro e w2 ⟨u, rfl, hr, hb⟩
  go_wp2
  go_ret2
  exact ⟨_, rfl, hr, (below_drewN (Below.refl _ w) d).trans hb⟩
theorem specGraphDegrees_no (B : Nat) (v : Value) (L : List Int) (hg : ¬ IsGraph L) (w : World) (h : Row w B v L) :
    Calls Tryd.prog 28 #[v] w (Told w [] false) := by
  have H1 := Lib.hid (specIn_any B v L false ⟨fun h => (by cases h), fun h => absurd h hg⟩ w h)
  clear hg h
  go_enter Tryd.func28, Tryd.ntmps28
  go_wp2_with fail
  refine H1.out.mono ?_
  rintro e w1 ⟨rfl, d, rfl⟩
  go_wp2
  go_ret2
  exact ⟨_, rfl, World.ownsRow_lit (base := w.heap.size) (e := 3) (size := 1) (w.drewN d) #[] 0 (Nat.le_refl _) (by unfold maxLen; omega) rfl, (below_drewN (Below.refl _ w) d).alloc (Nat.le_refl _) _⟩
end Go.Proofs.YtjkepoalepmjoaaDoor

/- The program's degrees. -/


namespace Go.Proofs.YtjkepoalepmjoaaDoor
open Go.RowKit Go.Shelf
attribute [local go_sem] Oper.semAt_some
set_option linter.unusedVariables false


theorem implGraphDegrees_yes (B : Nat) (v : Value) (L : List Int) (hg : IsGraph L) (w : World) (h : Row w B v L) (hT : Tab w) :
    Calls Tryd.prog 25 #[v] w (Told w (degL L L.length) true) := by
  have H1 := Lib.hid (asG_graph B v L hg w h hT)
  have h2 := hT.lt
  obtain ⟨A, c, rfl, hs⟩ := h.seen
  have H2 := Lib.hid (fun w hs ht => callsIn_wide.1 (implDegrees_in A c L hg w hs ht))
  clear hg h
  go_enter Tryd.func25, Tryd.ntmps25
  go_wp2_with fail
  go_enter Tryd.func58, Tryd.ntmps58
  go_wp2_with fail
  refine H1.out.mono ?_
  rintro e w1 ⟨rfl, b1⟩
  go_wp2_with fail
  refine (H2.out w1 (hs.below b1) (hT.below b1 (by omega))).mono ?_
  rintro e w2 ⟨u, rfl, hr, hb⟩
  go_wp2
  go_ret2
  exact ⟨_, rfl, hr.mono b1.size, b1.trans (hb.mono b1.size)⟩
theorem implGraphDegrees_no (B : Nat) (v : Value) (L : List Int) (hg : ¬ IsGraph L) (w : World) (h : Row w B v L) (hT : Tab w) :
    Calls Tryd.prog 25 #[v] w (Told w [] false) := by
  have H1 := Lib.hid (asG_none B v L hg w h hT)
  clear hg h
  go_enter Tryd.func25, Tryd.ntmps25
  go_wp2_with fail
  go_enter Tryd.func58, Tryd.ntmps58
  go_wp2_with fail
  refine H1.out.mono ?_
  rintro e w1 ⟨rfl, b1⟩
  go_wp2
  go_ret2
  exact ⟨_, rfl, World.ownsRow_nil w1 w.heap.size 3 1, b1⟩
end Go.Proofs.YtjkepoalepmjoaaDoor
