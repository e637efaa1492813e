/- A loop over an iterator whose own text is a loop over another iterator: the contract for such an iterator, and what a caller owes. -/
import Derived.RangeFuncNested
import Derived.RangeFuncBound
import Derived.RangeFuncCalls
import Derived.RangeFuncLeaves
import Derived.RangeFuncFrom
import Derived.Test.YtamabhdbcmjbjaaDoorBaseA
namespace Go.Proofs.YtamabhdbcmjbjaaDoor
open Go.RowKit Go.Shelf
set_option linter.unusedVariables false

/-- Some blocks lie as they lay. -/
def Lie (b d : Nat) (A B : World) : Prop := ∀ (k : Nat) (o : Obj), b ≤ k → k < b + d → A.heap[k]? = some o → B.heap[k]? = some o
theorem Lie.trans {b d : Nat} {A B C : World} (h : Lie b d A B) (k : Lie b d B C) : Lie b d A C := fun i o h1 h2 h3 => k i o h1 h2 (h i o h1 h2 h3)
theorem lie_put {b d : Nat} {W : World} {l : Nat} (o' : Obj) (h : l < b) : Lie b d W (W.putObj l o') := fun k o h1 _ h3 => (World.putObj_heap_other (by omega)).trans h3

/-- The iterator lays blocks of its own while it runs (d of them first): the caller's facts abide them, and a round leaves them alone. -/
def Outer (d : Nat) {α : Type} (F : Fence) (n : Nat) (P : Program) (g : Nat) (lb : Array Value) (encs : α → Array Value) (Kp : World → World → Prop) (S Sp : List α → Prop) (N : Nat) (w : World) : Prop :=
  ∀ (l : Nat) (J Jx : List α → World → Prop) (W : World), Below w.heap.size w W → OwnFrom W.heap.size J → OwnFrom W.heap.size Jx →
    (∀ pre x W1, J pre W1 → pre.length < N → YieldAt F (n - 1) P l (encs x) W1 fun e W' =>
      (e = .returned (.bool true) ∧ J (pre ++ [x]) W' ∧ Kp W1 W' ∧ KeepsFrom W.heap.size W1 W' ∧ Lie W.heap.size d W1 W') ∨ (e = .returned (.bool false) ∧ Jx (pre ++ [x]) W' ∧ KeepsFrom W.heap.size W1 W' ∧ Lie W.heap.size d W1 W')) →
    J [] W →
    CallsIn F n P g (#[.func (.yield l) #[] #[]] ++ lb) W fun e W' => (∃ v, e = .returned v) ∧ ((∃ xs, S xs ∧ J xs W') ∨ (∃ pre, Sp pre ∧ Jx pre W'))

theorem keepsFrom_put {B : Nat} {W : World} {l : Nat} (o' : Obj) (h : l < B) : KeepsFrom B W (W.putObj l o') :=
  KeepsFrom.of_grownBy (grownBy_putObj' W l o') (fun j e => by cases e; exact h)
theorem keepsFrom_up {B B' : Nat} {W W' : World} (h : KeepsFrom B W W') (hb : B ≤ B') : KeepsFrom B' W W' := ⟨h.size, fun k o hk => h.same k o (Nat.le_trans hb hk)⟩

variable {F : Fence} {n : Nat} {P : Program}

/-- What a caller of such an iterator owes. -/
theorem wpIn_outer {α : Type} {g : Operand} {ps : Array Tmp} {assign body : Code} {Q : Exit → Act → World → Prop} {a : Act} {w : World}
    (hro : F.round = none) (h1 : 1 ≤ n) {gf : Nat} {lb : Array Value} (hg : a.eval g = .func (.func gf) #[] lb) (hFg : F.fn gf) (eg : ∀ args w, (callFunc gf args).run P w = .ok (.enter gf args) w)
    {encs : α → Array Value} {Kp : World → World → Prop} {S Sp : List α → Prop} {N : Nat} {w0 : World} {d : Nat} (hseq : Outer d F (n - 1) P gf lb encs Kp S Sp N w0)
    (hKt : ∀ {A B C : World}, Kp A B → Kp B C → Kp A C) (hKb : ∀ (W : World) (l : Nat) (o o' : Obj), w.heap.size ≤ l → W.heap[l]? = some o → o.isCells = false → o.isWalk = false → Kp W (W.putObj l o')) (hb0 : Below w0.heap.size w0 w) (hps : ∀ x, (encs x).size = ps.size)
    (I : List α → World → Prop) (Ix : Code → List α → World → Prop) (hI : OwnFrom w.heap.size I) (hIx : ∀ c, OwnFrom w.heap.size (Ix c)) (h0 : I [] w) (a₁ : α → Act)
    (hassign : ∀ (l : Nat) (x : α) (W : World) (K : Act → World → Prop), K (a₁ x) W →
      assign.wpIn (F.inRound l) (n - 1 - 1) P (Exit.then K (fun _ _ _ => False)) { tmps := (ps.zip (encs x)).foldl (fun t (p, v) => t.setIfInBounds p v) a.tmps, defers := [] } W)
    (hbody : ∀ (l : Nat) (pre : List α) (x : α) (W : World), I pre W → pre.length < N → body.wpIn (F.inRound l) (n - 1 - 1) P (fun e a' Z => ownPostG w.heap.size Kp I Ix (pre ++ [x]) W e a' Z ∧ Lie (w.heap.size + 2) d W Z) (a₁ x) W)
    (hdone : ∀ (D : Nat) (xs : List α) (W : World), w.heap.size ≤ D → S xs → I xs W → W.heap[D]? = some (.deferred (some [])) → Q .normal { a with defers := { target := .collected D, args := #[] } :: a.defers } W)
    (hstop : ∀ (D : Nat) (c : Code) (pre : List α) (W : World), w.heap.size ≤ D → Sp pre → Ix c pre W → W.heap[D]? = some (.deferred (some [])) → c.wpIn F n P Q { a with defers := { target := .collected D, args := #[] } :: a.defers } W) :
    (Code.rangeFunc g ps assign body).wpIn F n P Q a w := by
  refine wpIn_rangeFunc ?_
  intro fn hfn
  rw [hro]
  -- the loop's record, in one of its states
  obtain ⟨m, hm⟩ : ∃ m, m = w.heap.size := ⟨_, rfl⟩
  obtain ⟨at_, hat⟩ : ∃ at_ : LoopState → Option Code → Obj, at_ = fun st pe => .loop { state := st, pending := pe, fn, tmps := a.tmps, params := ps, assign, body, defers := m } := ⟨_, rfl⟩
  obtain ⟨V, hV⟩ : ∃ V, V = (w.alloc (.deferred (some []))).alloc (at_ .ready none) := ⟨_, rfl⟩
  have sV : V.heap.size = m + 2 := by rw [hV, hm]; simp
  have rV : V.heap[m + 1]? = some (at_ .ready none) := by
    have e := World.alloc_heap_new (w.alloc (.deferred (some []))) (at_ .ready none)
    rw [World.size_alloc, ← hm] at e
    rw [hV]; exact e
  have dV : V.heap[m]? = some (.deferred (some [])) := by
    rw [hV, hm]; exact (Below.heap_alloc _ _ _ (by simp)).trans (World.alloc_heap_new w _)
  have iV : I [] V := by rw [hV]; exact hI.alloc _ (hI.alloc _ h0)
  have bV : Below w0.heap.size w0 V := by
    rw [hV]; exact hb0.trans ((((Below.refl _ w).alloc (Nat.le_refl _) _).alloc (by simp) _).mono hb0.size)
  refine ⟨m + 1, [{ target := .collected m, args := #[] }], V, { target := .fn (.func gf) lb, args := #[.func (.yield (m + 1)) #[] #[]] }, V, gf, #[.func (.yield (m + 1)) #[] #[]] ++ lb, V, ?_, ?_, ?_, ?_, fun _ => h1, ?_⟩
  · rw [hV, hat, hm]; exact run_enterLoop_outer _ _ _ _ _
  · simp only [resolve, hg]
    simp [go_sem]
  · intro f' hf'; simp [Target.leads] at hf'; subst hf'; exact hFg
  · simp [invoke, go_sem, eg]
  · rw [← hm] at hI hIx hbody hdone hstop hKb
    have up : ∀ {row : Option Nat} {A : World}, (∀ r, row = some r → V.heap.size ≤ r ∧ ∃ o : Obj, A.heap[r]? = some o ∧ o.isCells = false) → (∀ r, row = some r → m ≤ r ∧ ∃ o : Obj, A.heap[r]? = some o ∧ o.isCells = false) :=
      fun h r e => ⟨by have := (h r e).1; omega, (h r e).2⟩
    have far : ∀ {row : Option Nat} {A B : World} {k : Nat} {o : Obj}, A.grownBy B row → (∀ r, row = some r → V.heap.size ≤ r ∧ ∃ o : Obj, A.heap[r]? = some o ∧ o.isCells = false) → k < m + 2 → A.heap[k]? = some o → B.heap[k]? = some o :=
      fun hgr h hk e => (hgr.block _ (Array.getElem?_eq_some_iff.1 e).1 (fun e' => by have := (h _ e'.symm).1; omega)).trans e
    refine (hseq (m + 1) (fun pre W => I pre W ∧ W.heap[m + 1]? = some (at_ .ready none) ∧ W.heap[m]? = some (.deferred (some [])))
      (fun pre W => ∃ c, Ix c pre W ∧ W.heap[m + 1]? = some (at_ .done (some c)) ∧ W.heap[m]? = some (.deferred (some []))) V bV
      (fun s A B row hs hgr hr => ⟨hI s A B row hs.1 hgr (up hr), far hgr hr (by omega) hs.2.1, far hgr hr (by omega) hs.2.2⟩)
      (fun s A B row hs hgr hr => by
        obtain ⟨c, q1, q2, q3⟩ := hs
        exact ⟨c, hIx c s A B row q1 hgr (up hr), far hgr hr (by omega) q2, far hgr hr (by omega) q3⟩)
      ?_ ⟨iV, rV, dV⟩).mono ?_
    · -- a round
      rintro pre x W ⟨hi, hl, hd⟩ hlen
      have hlt : m + 1 < W.heap.size := (Array.getElem?_eq_some_iff.1 hl).1
      have hl' := hl
      rw [hat] at hl'
      have hy := run_yield (P := P) (args := encs x) hl' (by exact hps x)
      refine ⟨fn, _, assign, body, hy, roundIn_of_wpIn hfn (hassign _ x W _ ⟨_, run_beginRound hl' rfl, ?_⟩)⟩
      obtain ⟨U, hU⟩ : ∃ U, U = W.putObj (m + 1) (at_ .busy none) := ⟨_, rfl⟩
      have rU : U.heap[m + 1]? = some (at_ .busy none) := by rw [hU]; exact World.putObj_heap_same hlt
      have dU : U.heap[m]? = some (.deferred (some [])) := by rw [hU]; exact (World.putObj_heap_other (by omega)).trans hd
      have kU : Kp W U := by rw [hU]; exact hKb _ _ _ _ (by omega) hl (by rw [hat]; rfl) (by rw [hat]; rfl)
      have iU : I pre U := by rw [hU]; exact hI.putObj _ hi (by omega) hl (by rw [hat]; rfl)
      have fU : KeepsFrom V.heap.size W U := by rw [hU]; exact keepsFrom_put _ (by omega)
      have lU : Lie V.heap.size d W U := by rw [hU]; exact lie_put _ (by omega)
      have eU : W.putObj (m + 1) (.loop { state := .busy, pending := none, fn, tmps := a.tmps, params := ps, assign, body, defers := m }) = U := by rw [hU, hat]
      show body.wpIn _ _ _ _ _ (W.putObj (m + 1) (.loop { state := .busy, pending := none, fn, tmps := a.tmps, params := ps, assign, body, defers := m }))
      rw [eU]
      refine wpIn_mono (hbody _ pre x U iU hlen) ?_
      have fin : ∀ (jump : Option Code) (Z : World), KeepsFrom m U Z → Lie (m + 2) d U Z →
          (Instr.endRound (m + 1) jump).run P Z = .ok (.bool jump.isNone) (Z.putObj (m + 1) (at_ (if jump.isNone then .ready else .done) jump)) ∧ Z.heap[m + 1]? = some (at_ .busy none) ∧
          (Z.putObj (m + 1) (at_ (if jump.isNone then .ready else .done) jump)).heap[m + 1]? = some (at_ (if jump.isNone then .ready else .done) jump) ∧
          (Z.putObj (m + 1) (at_ (if jump.isNone then .ready else .done) jump)).heap[m]? = some (.deferred (some [])) ∧ KeepsFrom V.heap.size W (Z.putObj (m + 1) (at_ (if jump.isNone then .ready else .done) jump)) ∧ Lie V.heap.size d W (Z.putObj (m + 1) (at_ (if jump.isNone then .ready else .done) jump)) := fun jump Z hk hz => by
        have h3 := hk.same _ _ (by omega) rU (by rw [hat]; rfl)
        have h4 := h3
        rw [hat] at h4
        have h5 := run_endRound (P := P) jump h4
        refine ⟨by rw [hat]; exact h5, h3, World.putObj_heap_same (Array.getElem?_eq_some_iff.1 h3).1, (World.putObj_heap_other (by omega)).trans (hk.same _ _ (Nat.le_refl _) dU rfl), (fU.trans (keepsFrom_up hk (by omega))).trans (keepsFrom_put _ (by omega)), (lU.trans (by rw [sV]; exact hz)).trans (lie_put _ (by omega))⟩
      rintro e a3 Z ⟨hp, hz⟩
      cases e with
      | normal =>
        obtain ⟨k1, k2, k3⟩ := hp
        obtain ⟨r1, r2, r3, r4, r5, r6⟩ := fin none Z k1 hz
        exact ⟨_, _, r1, .inl ⟨rfl, ⟨hI.putObj _ k3 (by omega) r2 (by rw [hat]; rfl), r3, r4⟩, hKt (hKt kU k2) (hKb _ _ _ _ (by omega) r2 (by rw [hat]; rfl) (by rw [hat]; rfl)), r5, r6⟩⟩
      | ret =>
        obtain ⟨k1, k3⟩ := hp
        obtain ⟨r1, r2, r3, r4, r5, r6⟩ := fin (some .ret) Z k1 hz
        exact ⟨_, _, r1, .inr ⟨rfl, ⟨.ret, (hIx _).putObj _ k3 (by omega) r2 (by rw [hat]; rfl), r3, r4⟩, r5, r6⟩⟩
      | exit id =>
        obtain ⟨k1, k3⟩ := hp
        obtain ⟨r1, r2, r3, r4, r5, r6⟩ := fin (some (.exit id)) Z k1 hz
        exact ⟨_, _, r1, .inr ⟨rfl, ⟨.exit id, (hIx _).putObj _ k3 (by omega) r2 (by rw [hat]; rfl), r3, r4⟩, r5, r6⟩⟩
      | goto t =>
        obtain ⟨k1, k3⟩ := hp
        obtain ⟨r1, r2, r3, r4, r5, r6⟩ := fin (some (.goto t)) Z k1 hz
        exact ⟨_, _, r1, .inr ⟨rfl, ⟨.goto t, (hIx _).putObj _ k3 (by omega) r2 (by rw [hat]; rfl), r3, r4⟩, r5, r6⟩⟩
      | panic ch => exact hp.elim
      | outgrown => exact hp.elim
    · -- behind the iterator
      rintro e Z ⟨⟨v, rfl⟩, (⟨xs, hS, hi, hl, hd⟩ | ⟨pre, hSp, c, hi, hl, hd⟩)⟩
      · have hl' := hl
        rw [hat] at hl'
        exact ⟨none, _, run_endLoop (P := P) hl' (by simp), hdone m xs _ (Nat.le_refl _) hS (hI.putObj _ hi (by omega) hl (by rw [hat]; rfl)) ((World.putObj_heap_other (by omega)).trans hd)⟩
      · have hl' := hl
        rw [hat] at hl'
        exact ⟨some c, _, run_endLoop (P := P) hl' (by simp), hstop m c pre _ (Nat.le_refl _) hSp ((hIx c).putObj _ hi (by omega) hl (by rw [hat]; rfl)) ((World.putObj_heap_other (by omega)).trans hd)⟩
end Go.Proofs.YtamabhdbcmjbjaaDoor
