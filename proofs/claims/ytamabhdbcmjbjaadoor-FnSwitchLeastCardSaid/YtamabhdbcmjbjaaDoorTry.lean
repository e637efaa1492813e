/- The recurring closure of namings: it goes through all names that begin with what is there, and leaves off where a round says so. -/
import Derived.Test.YtamabhdbcmjbjaaDoorBaseG
import Derived.Test.YtamabhdbcmjbjaaDoorPhases
import Derived.RangeFuncBox
import Derived.OwnWalkIn
import Derived.Test.YtamabhdbcmjbjaaDoorBaseA
namespace Go.Proofs.YtamabhdbcmjbjaaDoor
open Go.RowKit Go.Shelf
attribute [local go_sem] Oper.semAt_some
set_option linter.unusedVariables false

/-- The iterator's own state: the yield's box, the list in the making and its box, the closure's box. -/
def St (B l n fx : Nat) (P : List Nat) (W : World) : Prop :=
  Boxed W B 42 (.func (.yield l) #[] #[]) ∧ Boxed W (B + 2) 23 (.slice (some ⟨B + 1, 0, none⟩) P.length n) ∧ Row W B (.slice (some ⟨B + 1, 0, none⟩) P.length n) (ints P) ∧
  Boxed W (B + 3) 47 (.func (.func 75) #[] #[.pointer (some ⟨B, 0, none⟩), .pointer (some ⟨B + 2, 0, none⟩), .pointer (some ⟨fx, 0, none⟩), .pointer (some ⟨B + 3, 0, none⟩)])
theorem St.grown {B l n fx : Nat} {P : List Nat} {X Y : World} {row : Option Nat} (h : St B l n fx P X) (hg : X.grownBy Y row) (hr : ∀ r, row = some r → B + 4 ≤ r) : St B l n fx P Y :=
  ⟨h.1.kept hg (fun e => by have := hr _ e.symm; omega), h.2.1.kept hg (fun e => by have := hr _ e.symm; omega),
    World.ownsRow.kept h.2.2.1 hg (.inr (fun e => by have e2 : some (B + 1) = row := e; have := hr _ e2.symm; omega)), h.2.2.2.kept hg (fun e => by have := hr _ e.symm; omega)⟩
theorem St.alloc {B l n fx : Nat} {P : List Nat} {X : World} (h : St B l n fx P X) (o : Obj) : St B l n fx P (X.alloc o) := h.grown (World.grownBy_alloc X o none) (fun _ e => by cases e)
theorem St.drew {B l n fx : Nat} {P : List Nat} {X : World} (h : St B l n fx P X) : St B l n fx P X.drew := h

/-- What the caller of the names owes, and what it is told. -/
structure Owes (B l n fx fid : Nat) (fcap : Array Value) (fit : List (List Nat) → List Nat → Bool) (J Jx : List (List Nat) → World → Prop) : Prop where
  far : ∀ s X Y, J s X → Below B X Y → Soft B X Y → J s Y
  farx : ∀ s X Y row, Jx s X → X.grownBy Y row → (∀ r, row = some r → B ≤ r ∧ ((∃ o : Obj, X.heap[r]? = some o ∧ o.isCells = false) ∨ ∃ v, Boxed X r 4 v)) → Jx s Y
  box : ∀ s X, J s X → Boxed X fx 42 (.func (.func fid) #[] fcap)
  tab : ∀ s X, J s X → Tab X
  enters : ∀ args w, (callFunc fid args).run Tryd.prog w = .ok (.enter fid args) w
  asks : ∀ acc P v W, J acc W → Row W B v (ints P) → 1 ≤ P.length → P.length ≤ n → (∀ x ∈ P, x < n) → Calls Tryd.prog fid (#[v] ++ fcap) W fun e W' => e = .returned (.bool (fit acc P)) ∧ Below W.heap.size W W'
  yields : ∀ acc P v W, B + 4 ≤ W.heap.size → J acc W → Row W B v (ints P) → P.length = n → (∀ x ∈ P, x < n) → YieldAt Fence.wide 8 Tryd.prog l #[v] W fun e W' =>
    (e = .returned (.bool true) ∧ J (acc ++ [P]) W' ∧ Rest0 B W W' ∧ Below 2 W W') ∨ (e = .returned (.bool false) ∧ Jx (acc ++ [P]) W' ∧ Rest0 B W W')

/-- How a try ends. -/
def Tried (B l n fx : Nat) (P : List Nat) (all : List (List Nat)) (J Jx : List (List Nat) → World → Prop) (W : World) (e : Ending) (W' : World) : Prop :=
  (e = .returned (.bool true) ∧ J all W' ∧ St B l n fx P W' ∧ RestP B W W' ∧ Below 2 W W') ∨ (e = .returned (.bool false) ∧ (∃ xs, Jx xs W' ∧ xs <+: all) ∧ RestP B W W')

theorem rest0_alloc (B : Nat) (X : World) (o : Obj) : Rest0 B X (X.alloc o) := ⟨by simp, fun k o' _ h => (Below.heap_alloc _ _ _ (Array.getElem?_eq_some_iff.1 h).1).trans h⟩
theorem st_rest0 {B l n fx : Nat} {P : List Nat} {X Y : World} (h : St B l n fx P X) (hr : Rest0 B X Y) : St B l n fx P Y := by
  obtain ⟨h1, h2, h3, h4⟩ := h
  refine ⟨hr.2 _ _ (Nat.le_refl _) h1, hr.2 _ _ (by omega) h2, ?_, hr.2 _ _ (by omega) h4⟩
  obtain ⟨a, b⟩ := h3
  refine ⟨a, ?_⟩
  rcases b with b | ⟨g, cap, cur, b1, b2, b3, b4⟩
  · exact .inl b
  · exact .inr ⟨g, cap, cur, b1, b2, hr.2 _ _ b2 b3, b4⟩
/-- A variable of the call's own is set, and that is all. -/
theorem restP_set {B b : Nat} {X Y : World} {v : Value} (h : RestP B X Y) (hb : X.heap.size ≤ b) : RestP B X (Y.setCell ⟨b, 0, none⟩ v) :=
  restP_later h (Nat.le_refl _) (fun k o hk _ _ h4 => (Below.heap_setCell _ _ _ k (fun e => by dsimp only at e; omega)).trans h4) (grownBy_setCell' Y b v).size

set_option maxRecDepth 100000 in
set_option maxHeartbeats 4000000 in
theorem try_zero {B l n fx fid : Nat} {fcap : Array Value} {fit : List (List Nat) → List Nat → Bool} {J Jx : List (List Nat) → World → Prop} (hB2 : 2 ≤ B) (hO : Owes B l n fx fid fcap fit J Jx)
    (acc : List (List Nat)) (P : List Nat) (W : World) (hBW : B + 4 ≤ W.heap.size) (hj : J acc W) (hst : St B l n fx P W) (hPn : P.length = n) (hPl : ∀ x ∈ P, x < n) :
    CallsIn Fence.wide 9 Tryd.prog 75 #[.int .i64 0, .pointer (some ⟨B, 0, none⟩), .pointer (some ⟨B + 2, 0, none⟩), .pointer (some ⟨fx, 0, none⟩), .pointer (some ⟨B + 3, 0, none⟩)] W
      (Tried B l n fx P (acc ++ [P]) J Jx W) := by
  obtain ⟨W2, eW2⟩ : ∃ W2, W2 = (W.alloc (.cells #[.int .i64 0] 3)).alloc (.cells #[.bool false] 4) := ⟨_, rfl⟩
  have hBB : Below B W W2 := by rw [eW2]; exact ((Below.refl B W).alloc (by omega) _).alloc (by simp <;> omega) _
  have hR0 : Rest0 B W W2 := by rw [eW2]; exact (rest0_alloc B W _).trans (rest0_alloc B _ _)
  have hb2 : Below 2 W W2 := by rw [eW2]; exact ((Below.refl 2 W).alloc (by omega) _).alloc (by simp <;> omega) _
  have hst2 := st_rest0 hst hR0
  have hrb : Boxed W2 (W.heap.size + 1) 4 (.bool false) := by
    rw [eW2]; have h := Boxed.new (W.alloc (.cells #[.int .i64 0] 3)) 4 (.bool false); rw [World.size_alloc] at h; exact h
  have hj2 := hO.far _ _ _ hj hBB (soft_rest hR0.p hBB)
  obtain ⟨fn, tmps, assign, body, hy, hR⟩ := hO.yields acc P (.slice (some ⟨B + 1, 0, none⟩) P.length n) W2 (Nat.le_trans hBW hR0.1) hj2 hst2.2.2.1 hPn hPl
  have y0 := hst2.1.cell
  have y2 := hst2.2.1.cell
  have HST := Lib.hid hst2
  have HO := Lib.hid hO
  obtain ⟨d, ed⟩ : ∃ d, d = P.length := ⟨_, rfl⟩
  rw [← ed] at y2 hy
  have HR := Lib.hid hR
  have hr1 := hrb.cell
  have x0 : ((W.alloc (.cells #[.int .i64 0] 3)).alloc (.cells #[.bool false] 4)).cell? ⟨B, 0, none⟩ = some (.func (.yield l) #[] #[]) := by rw [← eW2]; exact y0
  have x2 : ((W.alloc (.cells #[.int .i64 0] 3)).alloc (.cells #[.bool false] 4)).cell? ⟨B + 2, 0, none⟩ = some (.slice (some ⟨B + 1, 0, none⟩) d n) := by rw [← eW2]; exact y2
  rw [eW2] at hy
  have EW2 := Lib.hid eW2
  have RB := Lib.hid hrb
  have R0 := Lib.hid hR0
  clear hj2 hO hst hst2 hR hPn hPl ed y0 y2 eW2 hrb hr1
  refine callsIn_of_wp_marks Tryd.func75 rfl trivial ?_ rfl
  simp only [Tryd.ntmps75, List.size_toArray, List.length_cons, List.length_nil, Nat.reduceAdd, Nat.reduceSub, Array.replicate_succ, Array.replicate_zero, List.push_toArray, List.append_toArray, List.nil_append, List.cons_append]
  gi_wp2
  rw [← EW2.out]
  refine HR.out.mono ?_
  rintro e W3 (⟨rfl, j1, j2, j3⟩ | ⟨rfl, j1, j2⟩)
  · have r3 := j2.2 _ _ (by omega) RB.out
    have r3b : Boxed W3 (W.heap.size + 1) 4 (.bool false) := r3
    have z1 := r3b.cell
    have z2 := r3b.frozen
    have RB3 := Lib.hid r3b
    clear r3
    gi_wp2
    have zc := (r3b.set (.bool true)).cell
    refine ⟨.bool true, by simp [results, Tryd.f75, go_sem, zc], .inl ⟨rfl, ?_, ?_, ?_, ?_⟩⟩
    · exact HO.out.far _ W3 _ j1 ((Below.refl B W3).setCell (p := ⟨W.heap.size + 1, 0, none⟩) (by show B ≤ W.heap.size + 1; omega) _) (soft_grown (grownBy_setCell' W3 _ _) (fun r e => by cases e; exact ⟨by omega, .inr (.inr (soft_bool RB3.out))⟩))
    · exact (st_rest0 HST.out j2).grown (grownBy_setCell' W3 _ _) (fun r e => by cases e; omega)
    · exact restP_set (R0.out.trans j2).p (by omega)
    · exact (hb2.trans j3).setCell (p := ⟨W.heap.size + 1, 0, none⟩) (by show 2 ≤ W.heap.size + 1; omega) _
  · have r3 := j2.2 _ _ (by omega) RB.out
    have r3b : Boxed W3 (W.heap.size + 1) 4 (.bool false) := r3
    have z1 := r3b.cell
    have z2 := r3b.frozen
    clear r3
    gi_wp2
    have zc := (r3b.set (.bool false)).cell
    refine ⟨.bool false, by simp [results, Tryd.f75, go_sem, zc], .inr ⟨rfl, ⟨acc ++ [P], ?_, List.prefix_refl _⟩, ?_⟩⟩
    · exact HO.out.farx _ W3 _ _ j1 (grownBy_setCell' W3 _ _) (fun r e => by cases e; exact ⟨by omega, .inr ⟨_, r3b⟩⟩)
    · exact restP_set (R0.out.trans j2).p (by omega)
end Go.Proofs.YtamabhdbcmjbjaaDoor
