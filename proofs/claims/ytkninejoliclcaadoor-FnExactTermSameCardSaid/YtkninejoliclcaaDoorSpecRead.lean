/- The model reads a term: l11Read from a place on. -/
import Derived.Test.YtkninejoliclcaaDoorBaseA
import Derived.Laws.ResultCell
namespace Go.Proofs.YtkninejoliclcaaDoor
open Go Go.RowKit
set_option linter.unusedVariables false
set_option maxRecDepth 100000

theorem bl_alloc {w w' : World} {o : Obj} (h : Below w.heap.size w w') : Below w.heap.size w (w'.alloc o) := h.alloc h.size o
theorem bl_set {w w' : World} {p : Addr} {u : Value} (h : Below w.heap.size w w') (hp : w.heap.size ≤ p.block) : Below w.heap.size w (w'.setCell p u) := h.setCell hp u
theorem bl_then {w w' w'' : World} (h : Below w.heap.size w w') (k : Below w'.heap.size w' w'') : Below w.heap.size w w'' := h.trans (k.mono h.size)

/-- The model's sign as a number. -/
def sgI (s : Bool) : Int := if s then 42 else 43

/-- A term as a value of the model: a sign, and a slice of the terms in it, that lie in memory, in block B or later. -/
def TmAt (w : World) (B : Nat) : Tm → Value → Prop
  | .one, v => ∃ A n k, v = .agg #[.int .u8 49, .slice A n k]
  | .neg a, v => ∃ g c A n k, v = .agg #[.int .u8 45, .slice (some ⟨g, 0, none⟩) 1 1] ∧ B ≤ g ∧ g < w.heap.size ∧ w.cell? ⟨g, 0, none⟩ = some (.int .u8 c) ∧ w.cell? ⟨g, 1, none⟩ = some (.slice A n k) ∧ TmAt w B a (.agg #[.int .u8 c, .slice A n k])
  | .par s a b, v => ∃ g c A n k c' A' n' k', v = .agg #[.int .u8 (sgI s), .slice (some ⟨g, 0, none⟩) 2 2] ∧ B ≤ g ∧ g < w.heap.size ∧ w.cell? ⟨g, 0, none⟩ = some (.int .u8 c) ∧ w.cell? ⟨g, 1, none⟩ = some (.slice A n k) ∧ w.cell? ⟨g, 2, none⟩ = some (.int .u8 c') ∧ w.cell? ⟨g, 3, none⟩ = some (.slice A' n' k') ∧ TmAt w B a (.agg #[.int .u8 c, .slice A n k]) ∧ TmAt w B b (.agg #[.int .u8 c', .slice A' n' k'])
theorem TmAt.keep {w w' : World} {B B' : Nat} (hB : B' ≤ B) (hs : w.heap.size ≤ w'.heap.size) (h : ∀ k, B ≤ k → k < w.heap.size → w'.heap[k]? = w.heap[k]?) : ∀ {t : Tm} {v : Value}, TmAt w B t v → TmAt w' B' t v
  | .one, _, k => k
  | .neg a, _, ⟨g, c, A, n, k, e, hb, hg, h0, h1, ha⟩ => ⟨g, c, A, n, k, e, Nat.le_trans hB hb, Nat.lt_of_lt_of_le hg hs, (World.cell?_of_block (w := w) (w' := w') (a := ⟨g, 0, none⟩) (h g hb hg)).trans h0, (World.cell?_of_block (w := w) (w' := w') (a := ⟨g, 1, none⟩) (h g hb hg)).trans h1, TmAt.keep hB hs h ha⟩
  | .par s a b, _, ⟨g, c, A, n, k, c', A', n', k', e, hb, hg, h0, h1, h2, h3, ha, hb'⟩ => ⟨g, c, A, n, k, c', A', n', k', e, Nat.le_trans hB hb, Nat.lt_of_lt_of_le hg hs, (World.cell?_of_block (w := w) (w' := w') (a := ⟨g, 0, none⟩) (h g hb hg)).trans h0, (World.cell?_of_block (w := w) (w' := w') (a := ⟨g, 1, none⟩) (h g hb hg)).trans h1, (World.cell?_of_block (w := w) (w' := w') (a := ⟨g, 2, none⟩) (h g hb hg)).trans h2, (World.cell?_of_block (w := w) (w' := w') (a := ⟨g, 3, none⟩) (h g hb hg)).trans h3, TmAt.keep hB hs h ha, TmAt.keep hB hs h hb'⟩
theorem TmAt.below {w w' : World} {B : Nat} (h : Below w.heap.size w w') {t : Tm} {v : Value} (k : TmAt w B t v) : TmAt w' B t v := k.keep (Nat.le_refl _) h.size fun _ _ hk => h.block _ hk

theorem TmAt.set {w : World} {B s i : Nat} {x : Value} (hs : s < B) {t : Tm} {v : Value} (k : TmAt w B t v) : TmAt (w.setCell ⟨s, i, none⟩ x) B t v :=
  k.keep (Nat.le_refl _) (by simp) fun j hj _ => Below.heap_setCell w ⟨s, i, none⟩ x j (fun e => by have e' : j = s := e; omega)
theorem TmAt.alloc {w : World} {B : Nat} {o : Obj} {t : Tm} {v : Value} (k : TmAt w B t v) : TmAt (w.alloc o) B t v := k.below ((Below.refl _ _).alloc (Nat.le_refl _) o)
theorem TmAt.drew {w : World} {B : Nat} {t : Tm} {v : Value} (k : TmAt w B t v) : TmAt w.drew B t v := k.below ((Below.refl _ _).drew)
theorem TmAt.low {w : World} {B B' : Nat} (h : B' ≤ B) {t : Tm} {v : Value} (k : TmAt w B t v) : TmAt w B' t v := k.keep h (Nat.le_refl _) fun _ _ _ => rfl

/-- How reading ends: the term and the place behind it. -/
def SGot (w : World) (o : Option (Tm × Nat)) (e : Ending) (w' : World) : Prop :=
  (match o with
    | some (t, q) => ∃ c A n k, e = .returned (.tuple #[.agg #[.int .u8 c, .slice A n k], .int .i64 (q : Nat)]) ∧ TmAt w' w.heap.size t (.agg #[.int .u8 c, .slice A n k])
    | none => ∃ c A n k, e = .returned (.tuple #[.agg #[.int .u8 c, .slice A n k], .int .i64 0])) ∧ Below w.heap.size w w'

/-- How a call ends whose first result is kept in a box. -/
theorem ret_box {P : Program} {fn : Func} {R : Ending → World → Prop} {p u : Tmp} {ty : TypeId} {a : Act} {w : World} {b : Addr} {v : Value}
    (h : fn.results = #[.cell p ty, .tmp u]) (hd : a.defers = []) (hp : a.tmps.getD p undef = .pointer (some b)) (hv : (loadVar ty b).run P w = .ok v w) (hR : R (.returned (.tuple #[v, a.tmps.getD u undef])) w) : bodyPost P fn R .ret a w := by
  refine bodyPost_ret (v := .tuple #[v, a.tmps.getD u undef]) ?_ hd hR
  rw [results_cell_tmp h, hp]
  simp [asAddr, Result.andThen, hv]
theorem load_term (g : Nat) (w : World) (c u : Value) (h0 : w.cell? ⟨g, 0, none⟩ = some c) (h1 : w.cell? ⟨g, 1, none⟩ = some u) : (loadVar 35 ⟨g, 0, none⟩).run Tryd.prog w = .ok (.agg #[c, u]) w := by
  simp [loadVar, loadCells, loadCellsFrom, Addr.add, h0, h1, Result.andThen]

/-- The world in which l11Read has laid its boxes. -/
def bxW (w : World) : World := ((w.alloc (.cells #[.int .u8 0, .slice none 0 0] 35)).alloc (.cells #[] 35)).alloc (.cells #[.int .u8 49, .slice (some ⟨w.heap.size + 1, 0, none⟩) 0 0] 35)
/-- The boxes behind a call. -/
structure Bx (s : Nat) (w : World) : Prop where
  z0 : w.cell? ⟨s, 0, none⟩ = some (.int .u8 0)
  z1 : w.cell? ⟨s, 1, none⟩ = some (.slice none 0 0)
  f0 : w.frozen? ⟨s, 0, none⟩ = false
  f1 : w.frozen? ⟨s, 1, none⟩ = false
  n0 : w.cell? ⟨s + 1 + 1, 0, none⟩ = some (.int .u8 49)
  n1 : w.cell? ⟨s + 1 + 1, 1, none⟩ = some (.slice (some ⟨s + 1, 0, none⟩) 0 0)
  sz : s + 3 ≤ w.heap.size
theorem bxW_bx (w : World) : Bx w.heap.size (bxW w) := by
  unfold bxW
  refine ⟨?_, ?_, ?_, ?_, ?_, ?_, ?_⟩
  · simp [go_sem]
  · simp [go_sem]
  · simp [go_sem]
  · simp [go_sem]
  · simp [go_sem]
  · simp [go_sem]
  · simp
theorem bxW_below (w : World) : Below w.heap.size w (bxW w) := bl_alloc (bl_alloc (bl_alloc (Below.refl _ _)))
theorem Bx.below {s : Nat} {w w' : World} (h : Bx s w) (b : Below w.heap.size w w') : Bx s w' :=
  have h0 : s < w.heap.size := by have := h.sz; omega
  have h2 : s + 1 + 1 < w.heap.size := by have := h.sz; omega
  ⟨(b.cell (p := ⟨s, 0, none⟩) h0).trans h.z0, (b.cell (p := ⟨s, 1, none⟩) h0).trans h.z1, (b.frozen (p := ⟨s, 0, none⟩) h0).trans h.f0, (b.frozen (p := ⟨s, 1, none⟩) h0).trans h.f1, (b.cell (p := ⟨s + 1 + 1, 0, none⟩) h2).trans h.n0, (b.cell (p := ⟨s + 1 + 1, 1, none⟩) h2).trans h.n1, Nat.le_trans h.sz b.size⟩

set_option maxHeartbeats 400000 in
theorem sread_end (S : ByteArray) (n p : Nat) (hn : S.size = n) (hp : n ≤ p) (w : World) : Calls Tryd.prog 40 #[.string S, .int .i64 (p : Nat)] w (SGot w none) := by
  go_enter Tryd.func40, Tryd.ntmps40
  go_wp2
  refine ret_box rfl rfl rfl (load_term w.heap.size _ (.int .u8 49) (.slice (some ⟨w.heap.size + 1, 0, none⟩) 0 0) (by simp [go_sem]) (by simp [go_sem])) ?_
  exact ⟨⟨_, _, _, _, rfl⟩, bl_alloc (bl_alloc (bl_alloc (Below.refl _ _)))⟩

set_option maxHeartbeats 1000000 in
theorem sread_one (S : ByteArray) (n p : Nat) (hn : S.size = n) (hp : ¬ n ≤ p) (hw : wrap64 ((p : Int) + 1) = ((p + 1 : Nat) : Int)) (hi : ∀ w, (Instr.index 9 (.string S) (.int .i64 (p : Nat))).run Tryd.prog w = .ok (.int .u8 49) w) (w : World) : Calls Tryd.prog 40 #[.string S, .int .i64 (p : Nat)] w (SGot w (some (.one, p + 1))) := by
  go_enter Tryd.func40, Tryd.ntmps40
  go_wp2
  refine ret_box rfl rfl rfl (load_term w.heap.size _ (.int .u8 49) (.slice (some ⟨w.heap.size + 1, 0, none⟩) 0 0) (by simp [go_sem]) (by simp [go_sem])) ?_
  exact ⟨⟨49, _, 0, 0, by rw [← hw]; rfl, ⟨_, _, _, rfl⟩⟩, bl_alloc (bl_alloc (bl_alloc (Below.refl _ _)))⟩

set_option maxHeartbeats 1000000 in
theorem sread_else (S : ByteArray) (n p : Nat) (c : Int) (hn : S.size = n) (hp : ¬ n ≤ p) (hc1 : ¬ c = 49) (hc2 : ¬ c = 45) (hc3 : ¬ c = 40) (hi : ∀ w, (Instr.index 9 (.string S) (.int .i64 (p : Nat))).run Tryd.prog w = .ok (.int .u8 c) w) (w : World) : Calls Tryd.prog 40 #[.string S, .int .i64 (p : Nat)] w (SGot w none) := by
  have e1 : (c == 49) = false := beq_false_of_ne hc1
  have e2 : (c == 45) = false := beq_false_of_ne hc2
  have e3 : (c == 40) = false := beq_false_of_ne hc3
  go_enter Tryd.func40, Tryd.ntmps40
  go_wp2
  refine ret_box rfl rfl rfl (load_term w.heap.size _ (.int .u8 49) (.slice (some ⟨w.heap.size + 1, 0, none⟩) 0 0) (by simp [go_sem]) (by simp [go_sem])) ?_
  exact ⟨⟨_, _, _, _, rfl⟩, bl_alloc (bl_alloc (bl_alloc (Below.refl _ _)))⟩

set_option maxHeartbeats 1000000 in
theorem sread_minus_none (S : ByteArray) (n p : Nat) (hn : S.size = n) (hp : ¬ n ≤ p) (hw : wrap64 ((p : Int) + 1) = ((p + 1 : Nat) : Int)) (hi : ∀ w, (Instr.index 9 (.string S) (.int .i64 (p : Nat))).run Tryd.prog w = .ok (.int .u8 45) w)
    (H : ∀ w, Calls Tryd.prog 40 #[.string S, .int .i64 ((p + 1 : Nat) : Int)] w (SGot w none)) (w : World) : Calls Tryd.prog 40 #[.string S, .int .i64 (p : Nat)] w (SGot w none) := by
  have HH := Lib.hid H
  clear H
  have hb := Lib.hid (bxW_bx w)
  have hB := Lib.hid (bxW_below w)
  have hZ : (bxW w).heap.size = w.heap.size + 3 := by unfold bxW; simp
  go_enter Tryd.func40, Tryd.ntmps40
  go_wp2_with fail
  refine (HH.out (bxW w)).mono ?_
  rintro e w1 ⟨⟨c, A, k, k', rfl⟩, b1⟩
  have BW := Lib.hid (bl_then hB.out b1)
  obtain ⟨z0, z1, f0, f1, n0, n1, sz⟩ := hb.out.below b1
  clear hZ
  clear hb hB b1 hi HH
  generalize hs : w.heap.size = s at z0 z1 f0 f1 n0 n1 sz ⊢
  have e1 : s < w1.heap.size := by omega
  have e2 : s < w1.heap.size + 1 := by omega
  have e3 : s + 1 + 1 < w1.heap.size := by omega
  have e4 : s + 1 + 1 < w1.heap.size + 1 := by omega
  go_wp2
  refine ret_box rfl rfl rfl (load_term s _ (.int .u8 45) (.slice (some ⟨w1.heap.size + 1, 0, none⟩) 1 1) (by simp [go_sem, z0, e1]) (by simp [go_sem, z1, e1])) ?_
  exact ⟨⟨_, _, _, _, rfl⟩, bl_alloc (bl_alloc (bl_set (bl_set BW.out (Nat.le_of_eq hs)) (Nat.le_of_eq hs)))⟩

set_option maxHeartbeats 1000000 in
theorem sread_minus_some (S : ByteArray) (n p : Nat) (hn : S.size = n) (hp : ¬ n ≤ p) (hw : wrap64 ((p : Int) + 1) = ((p + 1 : Nat) : Int)) (hi : ∀ w, (Instr.index 9 (.string S) (.int .i64 (p : Nat))).run Tryd.prog w = .ok (.int .u8 45) w) (a : Tm) (q : Nat)
    (H : ∀ w, Calls Tryd.prog 40 #[.string S, .int .i64 ((p + 1 : Nat) : Int)] w (SGot w (some (a, q)))) (w : World) : Calls Tryd.prog 40 #[.string S, .int .i64 (p : Nat)] w (SGot w (some (.neg a, q))) := by
  have HH := Lib.hid H
  clear H
  have hb := Lib.hid (bxW_bx w)
  have hB := Lib.hid (bxW_below w)
  have hZ : (bxW w).heap.size = w.heap.size + 3 := by unfold bxW; simp
  go_enter Tryd.func40, Tryd.ntmps40
  go_wp2_with fail
  refine (HH.out (bxW w)).mono ?_
  rintro e w1 ⟨⟨c, A, k, k', rfl, t1⟩, b1⟩
  rw [hZ] at t1
  have BW := Lib.hid (bl_then hB.out b1)
  obtain ⟨z0, z1, f0, f1, n0, n1, sz⟩ := hb.out.below b1
  clear hZ
  have T1 := Lib.hid t1
  clear t1
  clear hb hB b1 hi HH
  generalize hs : w.heap.size = s at z0 z1 f0 f1 n0 n1 sz ⊢
  have e1 : s < w1.heap.size := by omega
  have e2 : s < w1.heap.size + 1 := by omega
  have e3 : s + 1 + 1 < w1.heap.size := by omega
  have e4 : s + 1 + 1 < w1.heap.size + 1 := by omega
  go_wp2
  refine ret_box rfl rfl rfl (load_term s _ (.int .u8 45) (.slice (some ⟨w1.heap.size + 1, 0, none⟩) 1 1) (by simp [go_sem, z0, e1]) (by simp [go_sem, z1, e1])) ?_
  refine ⟨⟨_, _, _, _, rfl, w1.heap.size + 1, c, A, k, k', rfl, by omega, by simp, by simp [go_sem], by simp [go_sem], ?_⟩, bl_alloc (bl_alloc (bl_set (bl_set BW.out (Nat.le_of_eq hs)) (Nat.le_of_eq hs)))⟩
  exact ((T1.out.set (by omega)).set (by omega)).alloc.alloc.low (by omega)

set_option maxHeartbeats 2000000 in
theorem sread_open_none1 (S : ByteArray) (n p : Nat) (hn : S.size = n) (hp : ¬ n ≤ p) (hw : wrap64 ((p : Int) + 1) = ((p + 1 : Nat) : Int)) (hi : ∀ w, (Instr.index 9 (.string S) (.int .i64 (p : Nat))).run Tryd.prog w = .ok (.int .u8 40) w)
    (H : ∀ w, Calls Tryd.prog 40 #[.string S, .int .i64 ((p + 1 : Nat) : Int)] w (SGot w none)) (w : World) : Calls Tryd.prog 40 #[.string S, .int .i64 (p : Nat)] w (SGot w none) := by
  have HH := Lib.hid H
  clear H
  have hb := Lib.hid (bxW_bx w)
  have hB := Lib.hid (bxW_below w)
  have hZ : (bxW w).heap.size = w.heap.size + 3 := by unfold bxW; simp
  go_enter Tryd.func40, Tryd.ntmps40
  go_wp2_with fail
  refine (HH.out (bxW w)).mono ?_
  rintro e w1 ⟨⟨c, A, k, k', rfl⟩, b1⟩
  have BW := Lib.hid (bl_then hB.out b1)
  have hX := hb.out.below b1
  clear hb hB b1 hi HH hZ
  obtain ⟨z0, z1, f0, f1, n0, n1, sz⟩ := hX
  generalize hs : w.heap.size = s at z0 z1 f0 f1 n0 n1 sz ⊢
  have e1 : s < w1.heap.size := by omega
  have e2 : s < w1.heap.size + 1 := by omega
  have e3 : s + 1 + 1 < w1.heap.size := by omega
  have e4 : s + 1 + 1 < w1.heap.size + 1 := by omega
  go_wp2
  refine ret_box rfl rfl rfl (load_term s _ (.int .u8 49) (.slice (some ⟨s + 1, 0, none⟩) 0 0) (by simp [go_sem, z0, e1]) (by simp [go_sem, z1, e1])) ?_
  exact ⟨⟨_, _, _, _, rfl⟩, bl_alloc (bl_set (bl_set BW.out (Nat.le_of_eq hs)) (Nat.le_of_eq hs))⟩

set_option maxHeartbeats 2000000 in
theorem sread_open_end1 (S : ByteArray) (n p : Nat) (hn : S.size = n) (hp : ¬ n ≤ p) (hw : wrap64 ((p : Int) + 1) = ((p + 1 : Nat) : Int)) (hi : ∀ w, (Instr.index 9 (.string S) (.int .i64 (p : Nat))).run Tryd.prog w = .ok (.int .u8 40) w) (a : Tm) (q : Nat) (hq : n ≤ q) (hq0 : ¬ q = 0)
    (H : ∀ w, Calls Tryd.prog 40 #[.string S, .int .i64 ((p + 1 : Nat) : Int)] w (SGot w (some (a, q)))) (w : World) : Calls Tryd.prog 40 #[.string S, .int .i64 (p : Nat)] w (SGot w none) := by
  have HH := Lib.hid H
  clear H
  have hb := Lib.hid (bxW_bx w)
  have hB := Lib.hid (bxW_below w)
  have hZ : (bxW w).heap.size = w.heap.size + 3 := by unfold bxW; simp
  go_enter Tryd.func40, Tryd.ntmps40
  go_wp2_with fail
  refine (HH.out (bxW w)).mono ?_
  rintro e w1 ⟨⟨c, A, k, k', rfl, t1⟩, b1⟩
  rw [hZ] at t1
  clear t1
  have BW := Lib.hid (bl_then hB.out b1)
  have hX := hb.out.below b1
  clear hb hB b1 hi HH hZ
  obtain ⟨z0, z1, f0, f1, n0, n1, sz⟩ := hX
  generalize hs : w.heap.size = s at z0 z1 f0 f1 n0 n1 sz ⊢
  have e1 : s < w1.heap.size := by omega
  have e2 : s < w1.heap.size + 1 := by omega
  have e3 : s + 1 + 1 < w1.heap.size := by omega
  have e4 : s + 1 + 1 < w1.heap.size + 1 := by omega
  go_wp2
  refine ret_box rfl rfl rfl (load_term s _ (.int .u8 49) (.slice (some ⟨s + 1, 0, none⟩) 0 0) (by simp [go_sem, z0, e1]) (by simp [go_sem, z1, e1])) ?_
  exact ⟨⟨_, _, _, _, rfl⟩, bl_alloc (bl_set (bl_set BW.out (Nat.le_of_eq hs)) (Nat.le_of_eq hs))⟩

set_option maxHeartbeats 2000000 in
theorem sread_open_bad1 (S : ByteArray) (n p : Nat) (hn : S.size = n) (hp : ¬ n ≤ p) (hw : wrap64 ((p : Int) + 1) = ((p + 1 : Nat) : Int)) (hi : ∀ w, (Instr.index 9 (.string S) (.int .i64 (p : Nat))).run Tryd.prog w = .ok (.int .u8 40) w) (a : Tm) (q : Nat) (hq : ¬ n ≤ q) (hq0 : ¬ q = 0) (d : Int) (hd1 : ¬ d = 43) (hd2 : ¬ d = 42)
    (hj : ∀ w, (Instr.index 9 (.string S) (.int .i64 (q : Nat))).run Tryd.prog w = .ok (.int .u8 d) w)
    (H : ∀ w, Calls Tryd.prog 40 #[.string S, .int .i64 ((p + 1 : Nat) : Int)] w (SGot w (some (a, q)))) (w : World) : Calls Tryd.prog 40 #[.string S, .int .i64 (p : Nat)] w (SGot w none) := by
  have d1 : (d != 43) = true := by simp [hd1]
  have d2 : (d != 42) = true := by simp [hd2]
  have HH := Lib.hid H
  clear H
  have hb := Lib.hid (bxW_bx w)
  have hB := Lib.hid (bxW_below w)
  have hZ : (bxW w).heap.size = w.heap.size + 3 := by unfold bxW; simp
  go_enter Tryd.func40, Tryd.ntmps40
  go_wp2_with fail
  refine (HH.out (bxW w)).mono ?_
  rintro e w1 ⟨⟨c, A, k, k', rfl, t1⟩, b1⟩
  rw [hZ] at t1
  clear t1
  have BW := Lib.hid (bl_then hB.out b1)
  have hX := hb.out.below b1
  clear hb hB b1 hi HH hZ
  obtain ⟨z0, z1, f0, f1, n0, n1, sz⟩ := hX
  generalize hs : w.heap.size = s at z0 z1 f0 f1 n0 n1 sz ⊢
  have e1 : s < w1.heap.size := by omega
  have e2 : s < w1.heap.size + 1 := by omega
  have e3 : s + 1 + 1 < w1.heap.size := by omega
  have e4 : s + 1 + 1 < w1.heap.size + 1 := by omega
  go_wp2
  refine ret_box rfl rfl rfl (load_term s _ (.int .u8 49) (.slice (some ⟨s + 1, 0, none⟩) 0 0) (by simp [go_sem, z0, e1]) (by simp [go_sem, z1, e1])) ?_
  exact ⟨⟨_, _, _, _, rfl⟩, bl_alloc (bl_set (bl_set BW.out (Nat.le_of_eq hs)) (Nat.le_of_eq hs))⟩

set_option maxHeartbeats 2000000 in
theorem sread_open_none2 (S : ByteArray) (n p : Nat) (hn : S.size = n) (hp : ¬ n ≤ p) (hw : wrap64 ((p : Int) + 1) = ((p + 1 : Nat) : Int)) (hi : ∀ w, (Instr.index 9 (.string S) (.int .i64 (p : Nat))).run Tryd.prog w = .ok (.int .u8 40) w) (a : Tm) (q : Nat) (hq : ¬ n ≤ q) (hq0 : ¬ q = 0) (hw2 : wrap64 ((q : Int) + 1) = ((q + 1 : Nat) : Int)) (sg : Int) (hsg : sg = 43 ∨ sg = 42)
    (hj : ∀ w, (Instr.index 9 (.string S) (.int .i64 (q : Nat))).run Tryd.prog w = .ok (.int .u8 sg) w)
    (H : ∀ w, Calls Tryd.prog 40 #[.string S, .int .i64 ((p + 1 : Nat) : Int)] w (SGot w (some (a, q))))
    (K : ∀ w, Calls Tryd.prog 40 #[.string S, .int .i64 ((q + 1 : Nat) : Int)] w (SGot w none)) (w : World) : Calls Tryd.prog 40 #[.string S, .int .i64 (p : Nat)] w (SGot w none) := by
  have HH := Lib.hid H
  clear H
  have HK := Lib.hid K
  clear K
  have hb := Lib.hid (bxW_bx w)
  have hB := Lib.hid (bxW_below w)
  have hZ : (bxW w).heap.size = w.heap.size + 3 := by unfold bxW; simp
  go_enter Tryd.func40, Tryd.ntmps40
  go_wp2_with fail
  refine (HH.out (bxW w)).mono ?_
  rintro e w1 ⟨⟨c, A, k, k', rfl, t1⟩, b1⟩
  rw [hZ] at t1
  clear t1
  have BW := Lib.hid (bl_then hB.out b1)
  have hX := hb.out.below b1
  clear hb hB b1 HH hZ
  rcases hsg with rfl | rfl
  all_goals
    go_wp2_with fail
    refine (HK.out (w1.alloc (.cells #[.int .u8 c, .slice A k k'] 35))).mono ?_
    rintro e w2 ⟨⟨c2, A2, m, m', rfl⟩, b2⟩
    have hX2 := (hX.below ((Below.refl _ _).alloc (Nat.le_refl _) (.cells #[.int .u8 c, .slice A k k'] 35))).below b2
    have s2 : w1.heap.size < w2.heap.size := Nat.lt_of_lt_of_le (by simp) b2.size
    have y0 : w2.cell? ⟨w1.heap.size, 0, none⟩ = some (.int .u8 c) := (b2.cell (p := ⟨w1.heap.size, 0, none⟩) (by simp)).trans (by simp [go_sem])
    have y1 : w2.cell? ⟨w1.heap.size, 1, none⟩ = some (.slice A k k') := (b2.cell (p := ⟨w1.heap.size, 1, none⟩) (by simp)).trans (by simp [go_sem])
    have BW2 := Lib.hid (bl_then (bl_alloc BW.out) b2)
    have sz1 := hX.sz
    clear hX b2 HK hi BW
    obtain ⟨z0, z1, f0, f1, n0, n1, sz⟩ := hX2
    generalize hs : w.heap.size = s at z0 z1 f0 f1 n0 n1 sz sz1 ⊢
    generalize w1.heap.size = s9 at y0 y1 s2 sz1 ⊢
    have e1 : s < w2.heap.size := by omega
    have e2 : s < w2.heap.size + 1 := by omega
    have e3 : s + 1 + 1 < w2.heap.size := by omega
    have e4 : s + 1 + 1 < w2.heap.size + 1 := by omega
    have e5 : s9 < w2.heap.size + 1 := by omega
    have e6 : ¬ s = s9 := by omega
    go_wp2
    refine ret_box rfl rfl rfl (load_term s _ (.int .u8 49) (.slice (some ⟨s + 1, 0, none⟩) 0 0) (by simp [go_sem, z0, e1]) (by simp [go_sem, z1, e1])) ?_
    exact ⟨⟨_, _, _, _, rfl⟩, bl_alloc (bl_set (bl_set BW2.out (Nat.le_of_eq hs)) (Nat.le_of_eq hs))⟩

set_option maxHeartbeats 2000000 in
theorem sread_open_end2 (S : ByteArray) (n p : Nat) (hn : S.size = n) (hp : ¬ n ≤ p) (hw : wrap64 ((p : Int) + 1) = ((p + 1 : Nat) : Int)) (hi : ∀ w, (Instr.index 9 (.string S) (.int .i64 (p : Nat))).run Tryd.prog w = .ok (.int .u8 40) w) (a : Tm) (q : Nat) (hq : ¬ n ≤ q) (hq0 : ¬ q = 0) (hw2 : wrap64 ((q : Int) + 1) = ((q + 1 : Nat) : Int)) (sg : Int) (hsg : sg = 43 ∨ sg = 42) (b : Tm) (r : Nat) (hr : n ≤ r) (hr0 : ¬ r = 0)
    (hj : ∀ w, (Instr.index 9 (.string S) (.int .i64 (q : Nat))).run Tryd.prog w = .ok (.int .u8 sg) w)
    (H : ∀ w, Calls Tryd.prog 40 #[.string S, .int .i64 ((p + 1 : Nat) : Int)] w (SGot w (some (a, q))))
    (K : ∀ w, Calls Tryd.prog 40 #[.string S, .int .i64 ((q + 1 : Nat) : Int)] w (SGot w (some (b, r)))) (w : World) : Calls Tryd.prog 40 #[.string S, .int .i64 (p : Nat)] w (SGot w none) := by
  have HH := Lib.hid H
  clear H
  have HK := Lib.hid K
  clear K
  have hb := Lib.hid (bxW_bx w)
  have hB := Lib.hid (bxW_below w)
  have hZ : (bxW w).heap.size = w.heap.size + 3 := by unfold bxW; simp
  go_enter Tryd.func40, Tryd.ntmps40
  go_wp2_with fail
  refine (HH.out (bxW w)).mono ?_
  rintro e w1 ⟨⟨c, A, k, k', rfl, t1⟩, b1⟩
  rw [hZ] at t1
  clear t1
  have BW := Lib.hid (bl_then hB.out b1)
  have hX := hb.out.below b1
  clear hb hB b1 HH hZ
  rcases hsg with rfl | rfl
  all_goals
    go_wp2_with fail
    refine (HK.out (w1.alloc (.cells #[.int .u8 c, .slice A k k'] 35))).mono ?_
    rintro e w2 ⟨⟨c2, A2, m, m', rfl, t2⟩, b2⟩
    clear t2
    have hX2 := (hX.below ((Below.refl _ _).alloc (Nat.le_refl _) (.cells #[.int .u8 c, .slice A k k'] 35))).below b2
    have s2 : w1.heap.size < w2.heap.size := Nat.lt_of_lt_of_le (by simp) b2.size
    have y0 : w2.cell? ⟨w1.heap.size, 0, none⟩ = some (.int .u8 c) := (b2.cell (p := ⟨w1.heap.size, 0, none⟩) (by simp)).trans (by simp [go_sem])
    have y1 : w2.cell? ⟨w1.heap.size, 1, none⟩ = some (.slice A k k') := (b2.cell (p := ⟨w1.heap.size, 1, none⟩) (by simp)).trans (by simp [go_sem])
    have BW2 := Lib.hid (bl_then (bl_alloc BW.out) b2)
    have sz1 := hX.sz
    clear hX b2 HK hi BW
    obtain ⟨z0, z1, f0, f1, n0, n1, sz⟩ := hX2
    generalize hs : w.heap.size = s at z0 z1 f0 f1 n0 n1 sz sz1 ⊢
    generalize w1.heap.size = s9 at y0 y1 s2 sz1 ⊢
    have e1 : s < w2.heap.size := by omega
    have e2 : s < w2.heap.size + 1 := by omega
    have e3 : s + 1 + 1 < w2.heap.size := by omega
    have e4 : s + 1 + 1 < w2.heap.size + 1 := by omega
    have e5 : s9 < w2.heap.size + 1 := by omega
    have e6 : ¬ s = s9 := by omega
    go_wp2
    refine ret_box rfl rfl rfl (load_term s _ (.int .u8 49) (.slice (some ⟨s + 1, 0, none⟩) 0 0) (by simp [go_sem, z0, e1]) (by simp [go_sem, z1, e1])) ?_
    exact ⟨⟨_, _, _, _, rfl⟩, bl_alloc (bl_set (bl_set BW2.out (Nat.le_of_eq hs)) (Nat.le_of_eq hs))⟩

set_option maxHeartbeats 2000000 in
theorem sread_open_bad2 (S : ByteArray) (n p : Nat) (hn : S.size = n) (hp : ¬ n ≤ p) (hw : wrap64 ((p : Int) + 1) = ((p + 1 : Nat) : Int)) (hi : ∀ w, (Instr.index 9 (.string S) (.int .i64 (p : Nat))).run Tryd.prog w = .ok (.int .u8 40) w) (a : Tm) (q : Nat) (hq : ¬ n ≤ q) (hq0 : ¬ q = 0) (hw2 : wrap64 ((q : Int) + 1) = ((q + 1 : Nat) : Int)) (sg : Int) (hsg : sg = 43 ∨ sg = 42) (b : Tm) (r : Nat) (hr : ¬ n ≤ r) (hr0 : ¬ r = 0) (d : Int) (hd : ¬ d = 41)
    (hk : ∀ w, (Instr.index 9 (.string S) (.int .i64 (r : Nat))).run Tryd.prog w = .ok (.int .u8 d) w)
    (hj : ∀ w, (Instr.index 9 (.string S) (.int .i64 (q : Nat))).run Tryd.prog w = .ok (.int .u8 sg) w)
    (H : ∀ w, Calls Tryd.prog 40 #[.string S, .int .i64 ((p + 1 : Nat) : Int)] w (SGot w (some (a, q))))
    (K : ∀ w, Calls Tryd.prog 40 #[.string S, .int .i64 ((q + 1 : Nat) : Int)] w (SGot w (some (b, r)))) (w : World) : Calls Tryd.prog 40 #[.string S, .int .i64 (p : Nat)] w (SGot w none) := by
  have d1 : (d != 41) = true := by simp [hd]
  have HH := Lib.hid H
  clear H
  have HK := Lib.hid K
  clear K
  have hb := Lib.hid (bxW_bx w)
  have hB := Lib.hid (bxW_below w)
  have hZ : (bxW w).heap.size = w.heap.size + 3 := by unfold bxW; simp
  go_enter Tryd.func40, Tryd.ntmps40
  go_wp2_with fail
  refine (HH.out (bxW w)).mono ?_
  rintro e w1 ⟨⟨c, A, k, k', rfl, t1⟩, b1⟩
  rw [hZ] at t1
  clear t1
  have BW := Lib.hid (bl_then hB.out b1)
  have hX := hb.out.below b1
  clear hb hB b1 HH hZ
  rcases hsg with rfl | rfl
  all_goals
    go_wp2_with fail
    refine (HK.out (w1.alloc (.cells #[.int .u8 c, .slice A k k'] 35))).mono ?_
    rintro e w2 ⟨⟨c2, A2, m, m', rfl, t2⟩, b2⟩
    clear t2
    have hX2 := (hX.below ((Below.refl _ _).alloc (Nat.le_refl _) (.cells #[.int .u8 c, .slice A k k'] 35))).below b2
    have s2 : w1.heap.size < w2.heap.size := Nat.lt_of_lt_of_le (by simp) b2.size
    have y0 : w2.cell? ⟨w1.heap.size, 0, none⟩ = some (.int .u8 c) := (b2.cell (p := ⟨w1.heap.size, 0, none⟩) (by simp)).trans (by simp [go_sem])
    have y1 : w2.cell? ⟨w1.heap.size, 1, none⟩ = some (.slice A k k') := (b2.cell (p := ⟨w1.heap.size, 1, none⟩) (by simp)).trans (by simp [go_sem])
    have BW2 := Lib.hid (bl_then (bl_alloc BW.out) b2)
    have sz1 := hX.sz
    clear hX b2 HK hi BW
    obtain ⟨z0, z1, f0, f1, n0, n1, sz⟩ := hX2
    generalize hs : w.heap.size = s at z0 z1 f0 f1 n0 n1 sz sz1 ⊢
    generalize w1.heap.size = s9 at y0 y1 s2 sz1 ⊢
    have e1 : s < w2.heap.size := by omega
    have e2 : s < w2.heap.size + 1 := by omega
    have e3 : s + 1 + 1 < w2.heap.size := by omega
    have e4 : s + 1 + 1 < w2.heap.size + 1 := by omega
    have e5 : s9 < w2.heap.size + 1 := by omega
    have e6 : ¬ s = s9 := by omega
    go_wp2
    refine ret_box rfl rfl rfl (load_term s _ (.int .u8 49) (.slice (some ⟨s + 1, 0, none⟩) 0 0) (by simp [go_sem, z0, e1]) (by simp [go_sem, z1, e1])) ?_
    exact ⟨⟨_, _, _, _, rfl⟩, bl_alloc (bl_set (bl_set BW2.out (Nat.le_of_eq hs)) (Nat.le_of_eq hs))⟩

set_option maxHeartbeats 2000000 in
theorem sread_open_yes (S : ByteArray) (n p : Nat) (hn : S.size = n) (hp : ¬ n ≤ p) (hw : wrap64 ((p : Int) + 1) = ((p + 1 : Nat) : Int)) (hi : ∀ w, (Instr.index 9 (.string S) (.int .i64 (p : Nat))).run Tryd.prog w = .ok (.int .u8 40) w) (a : Tm) (q : Nat) (hq : ¬ n ≤ q) (hq0 : ¬ q = 0) (hw2 : wrap64 ((q : Int) + 1) = ((q + 1 : Nat) : Int)) (sg : Int) (hsg : sg = 43 ∨ sg = 42) (b : Tm) (r : Nat) (hr : ¬ n ≤ r) (hr0 : ¬ r = 0) (hw3 : wrap64 ((r : Int) + 1) = ((r + 1 : Nat) : Int)) (s0 : Bool) (hs0 : sgI s0 = sg)
    (hk : ∀ w, (Instr.index 9 (.string S) (.int .i64 (r : Nat))).run Tryd.prog w = .ok (.int .u8 41) w)
    (hj : ∀ w, (Instr.index 9 (.string S) (.int .i64 (q : Nat))).run Tryd.prog w = .ok (.int .u8 sg) w)
    (H : ∀ w, Calls Tryd.prog 40 #[.string S, .int .i64 ((p + 1 : Nat) : Int)] w (SGot w (some (a, q))))
    (K : ∀ w, Calls Tryd.prog 40 #[.string S, .int .i64 ((q + 1 : Nat) : Int)] w (SGot w (some (b, r)))) (w : World) : Calls Tryd.prog 40 #[.string S, .int .i64 (p : Nat)] w (SGot w (some (.par s0 a b, r + 1))) := by
  have HH := Lib.hid H
  clear H
  have HK := Lib.hid K
  clear K
  have hb := Lib.hid (bxW_bx w)
  have hB := Lib.hid (bxW_below w)
  have hZ : (bxW w).heap.size = w.heap.size + 3 := by unfold bxW; simp
  go_enter Tryd.func40, Tryd.ntmps40
  go_wp2_with fail
  refine (HH.out (bxW w)).mono ?_
  rintro e w1 ⟨⟨c, A, k, k', rfl, t1⟩, b1⟩
  rw [hZ] at t1
  have T1 := Lib.hid t1
  clear t1
  have BW := Lib.hid (bl_then hB.out b1)
  have hX := hb.out.below b1
  clear hb hB b1 HH hZ
  rcases hsg with rfl | rfl
  all_goals
    go_wp2_with fail
    refine (HK.out (w1.alloc (.cells #[.int .u8 c, .slice A k k'] 35))).mono ?_
    rintro e w2 ⟨⟨c2, A2, m, m', rfl, t2⟩, b2⟩
    have T2 := Lib.hid (TmAt.low (B' := w.heap.size + 3) (by have := hX.sz; simp; omega) t2)
    have T3 := Lib.hid (TmAt.below b2 (TmAt.alloc (o := .cells #[.int .u8 c, .slice A k k'] 35) T1.out))
    clear t2
    have hX2 := (hX.below ((Below.refl _ _).alloc (Nat.le_refl _) (.cells #[.int .u8 c, .slice A k k'] 35))).below b2
    have s2 : w1.heap.size < w2.heap.size := Nat.lt_of_lt_of_le (by simp) b2.size
    have y0 : w2.cell? ⟨w1.heap.size, 0, none⟩ = some (.int .u8 c) := (b2.cell (p := ⟨w1.heap.size, 0, none⟩) (by simp)).trans (by simp [go_sem])
    have y1 : w2.cell? ⟨w1.heap.size, 1, none⟩ = some (.slice A k k') := (b2.cell (p := ⟨w1.heap.size, 1, none⟩) (by simp)).trans (by simp [go_sem])
    have BW2 := Lib.hid (bl_then (bl_alloc BW.out) b2)
    have sz1 := hX.sz
    clear hX b2 HK hi BW
    obtain ⟨z0, z1, f0, f1, n0, n1, sz⟩ := hX2
    generalize hs : w.heap.size = s at z0 z1 f0 f1 n0 n1 sz sz1 ⊢
    generalize w1.heap.size = s9 at y0 y1 s2 sz1 ⊢
    have e1 : s < w2.heap.size := by omega
    have e2 : s < w2.heap.size + 1 := by omega
    have e3 : s + 1 + 1 < w2.heap.size := by omega
    have e4 : s + 1 + 1 < w2.heap.size + 1 := by omega
    have e5 : s9 < w2.heap.size + 1 := by omega
    have e6 : ¬ s = s9 := by omega
    clear hw hw2 T1
    go_wp2
    go_region
    go_wp2
    refine ret_box rfl rfl rfl (load_term s _ (.int .u8 (sgI s0)) (.slice (some ⟨w2.heap.size + 1, 0, none⟩) 2 2) (by rw [hs0]; simp [go_sem, z0, e1]) (by simp [go_sem, z1, e1])) ?_
    refine ⟨⟨_, _, _, _, by rw [← hw3]; rfl, w2.heap.size + 1, c, A, k, k', c2, A2, m, m', rfl, by omega, by simp, by simp [go_sem], by simp [go_sem], by simp [go_sem], by simp [go_sem], ?_, ?_⟩, (bl_alloc (bl_alloc (bl_set (bl_set BW2.out (Nat.le_of_eq hs)) (Nat.le_of_eq hs)))).drew⟩
    · exact (((T3.out.set (by omega)).set (by omega)).alloc.alloc.drew).low (by omega)
    · exact (((T2.out.set (by omega)).set (by omega)).alloc.alloc.drew).low (by omega)

end Go.Proofs.YtkninejoliclcaaDoor
