/- The edges within a set of nodes, as the program finds them: a struct in a box. -/
import Derived.Test.YtcblcifnpgmibaaDoorSetMath
import Derived.Test.YtcblcifnpgmibaaDoorPlace
import Derived.Test.YtcblcifnpgmibaaDoorEdgesIt
import Derived.Test.YtcblcifnpgmibaaDoorBaseA
import Derived.Laws.Rows
import Derived.OwnWalkIn
import Derived.RangeFuncNested
namespace Go.Proofs.YtcblcifnpgmibaaDoor
open Go.RowKit Go.Shelf
attribute [local go_sem] Oper.semAt_some
set_option linter.unusedVariables false
set_option maxRecDepth 100000

/-- A box that holds some nodes and some edges. -/
abbrev prC (a b : Int) : Array Value := #[.int .i64 a, .int .i64 b]
def PairAt (W : World) (B : Nat) (a b : Int) : Prop := W.heap[B]? = some (.cells (prC a b) 60 (0, 0))
theorem PairAt.lt {W : World} {B : Nat} {a b : Int} (h : PairAt W B a b) : B < W.heap.size := (Array.getElem?_eq_some_iff.1 h).1
theorem PairAt.cell1 {W : World} {B : Nat} {a b : Int} (h : PairAt W B a b) : W.cell? ⟨B, 1, none⟩ = some (.int .i64 b) := by rw [cell_of_row W B 1 _ _ _ h]; rfl
theorem PairAt.cell0 {W : World} {B : Nat} {a b : Int} (h : PairAt W B a b) : W.cell? ⟨B, 0, none⟩ = some (.int .i64 a) := by rw [cell_of_row W B 0 _ _ _ h]; rfl
theorem PairAt.frozen {W : World} {B : Nat} {a b : Int} (h : PairAt W B a b) (k : Nat) : W.frozen? ⟨B, k, none⟩ = false := frozen_of_row W B k _ _ h
theorem PairAt.set1 {W : World} {B : Nat} {a b : Int} (h : PairAt W B a b) (x : Int) : PairAt (W.setCell ⟨B, 1, none⟩ (.int .i64 x)) B a x := by
  unfold PairAt
  rw [heap_setCell_same W B _ _ _ _ h]
  rfl
theorem PairAt.set0 {W : World} {B : Nat} {a b : Int} (h : PairAt W B a b) (x : Int) : PairAt (W.setCell ⟨B, 0, none⟩ (.int .i64 x)) B x b := by
  unfold PairAt
  rw [heap_setCell_same W B _ _ _ _ h]
  rfl
theorem PairAt.other {W : World} {B : Nat} {a b : Int} (h : PairAt W B a b) {p : Addr} (v : Value) (hne : B ≠ p.block) : PairAt (W.setCell p v) B a b := (heap_setCell_other W p B v hne).trans h
theorem PairAt.alloc {W : World} {B : Nat} {a b : Int} (h : PairAt W B a b) (o : Obj) : PairAt (W.alloc o) B a b := (Below.heap_alloc W o B h.lt).trans h
theorem PairAt.new (W : World) (a b : Int) : PairAt (W.alloc (.cells (prC a b) 60)) W.heap.size a b := heap_alloc_new W _
theorem PairAt.kept {W W' : World} {row : Option Nat} {B : Nat} {a b : Int} (h : PairAt W B a b) (hg : W.grownBy W' row) (hne : some B ≠ row) : PairAt W' B a b := (hg.block B h.lt hne).trans h
theorem pair_own {β : Type} (B : Nat) (f g : β → Int) : Own (fun s W => PairAt W B (f s) (g s)) := fun s X Y row hs hg hrow =>
  (hg.block B hs.lt (fun e' => by obtain ⟨o, ho, hc⟩ := hrow B e'.symm; rw [show X.heap[B]? = _ from hs] at ho; cases ho; cases hc)).trans hs
theorem pair_desc : ∃ d, Tryd.prog.underlying 60 = some (.struct d) := by
  cases h : Tryd.prog.underlying 60 with
  | none => exact absurd h (by rw [show Tryd.prog.underlying 60 = _ from Tryd.underlying60]; intro e; cases e)
  | some d =>
    rw [show Tryd.prog.underlying 60 = _ from Tryd.underlying60] at h
    cases h
    exact ⟨_, rfl⟩
theorem pair_info : (Tryd.prog.info? 60).map (·.size) = some 2 := by kernel_rfl
theorem load_pair {W : World} {B : Nat} {a b : Int} (h : PairAt W B a b) : (loadVar 60 ⟨B, 0, none⟩).run Tryd.prog W = .ok (.agg (prC a b)) W := by
  obtain ⟨d, hd⟩ := pair_desc
  exact run_loadVar_row W B _ _ _ _ _ h hd rfl pair_info
theorem store_pair {W : World} {B : Nat} {a b : Int} (x y : Int) (h : PairAt W B a b) : (storeVar 60 ⟨B, 0, none⟩ (.agg (prC x y))).run Tryd.prog W = .ok () (W.setRow B (prC x y)) :=
  run_storeVar_row W B _ _ _ _ h pair_info rfl (by simp [Value.oneCell'])
theorem PairAt.stored {W : World} {B : Nat} {a b : Int} (x y : Int) (h : PairAt W B a b) : PairAt (W.setRow B (prC x y)) B x y := setRow_heap W B _ _ _ _ h
theorem build_pair (x : Int) (W : World) : (Instr.build 60 #[(0, .int .i64 x)]).run Tryd.prog W = .ok (.agg (prC x 0)) W := by kernel_rfl
theorem alloc_pair (W : World) : (Instr.alloc 60 true (.tuple #[])).run Tryd.prog W = .ok (.pointer (some ⟨W.heap.size, 0, none⟩)) (W.alloc (.cells (prC 0 0) 60)) := by rfl
theorem field_pair (B : Nat) (W : World) : (Instr.fieldAt 60 (.pointer (some ⟨B, 0, none⟩)) 1).run Tryd.prog W = .ok (.pointer (some ⟨B, 1, none⟩)) W := by rfl

theorem below_setRowP {B : Nat} {a w : World} (h : Below B a w) {g : Nat} (hp : B ≤ g) (cs : Array Value) : Below B a (w.setRow g cs) :=
  h.trans ⟨rfl, rfl, rfl, by simp, fun k hk => setRow_other w g k cs (by omega)⟩
theorem lie_grown {Z Z' : World} {B b d : Nat} (h : Z.grownBy Z' (some B)) (hB : B < b) : Lie b d Z Z' := fun k o h1 _ h3 =>
  (h.block k (Array.getElem?_eq_some_iff.1 h3).1 (fun e => by injection e; omega)).trans h3
section
variable {F : Fence} {n : Nat} {ops : Array Oper} {rest : List Oper} {o : Oper} {a : Act} {w : World} {Q : Exit → Act → World → Prop}
theorem stepIn_load_pair (hgd : o.guard = none) (x : Operand) (ho : o.op = .load 60 x) (g : Nat) (p q : Int) (hx : a.eval x = .pointer (some ⟨g, 0, none⟩)) (h : PairAt w g p q)
    (hK : wpListIn F n Tryd.prog ops Q rest (a.put o.dst (.agg (prC p q))) w) : wpListIn F n Tryd.prog ops Q (o :: rest) a w :=
  wpListIn_plain hgd fun K hK' => by
    unfold Oper.wpIn
    refine ⟨by simp [Oper.about, ho], ?_⟩
    rw [Oper.semAt_plain F _ _ (by rw [ho]; intro c hc'; cases hc')]
    simp only [execOp, ho, hx, Instr.loadAt, Instr.sureAddr, Sem.run_bind, Sem.run_pure, Result.andThen_ok, load_pair h]
    exact hK' _ _ hK
theorem stepIn_store_pair (hgd : o.guard = none) (x y : Operand) (ho : o.op = .store 60 x y) (g : Nat) (p q p' q' : Int) (hx : a.eval x = .pointer (some ⟨g, 0, none⟩)) (hy : a.eval y = .agg (prC p' q')) (h : PairAt w g p q)
    (hK : wpListIn F n Tryd.prog ops Q rest (a.put o.dst undef) (w.setRow g (prC p' q'))) : wpListIn F n Tryd.prog ops Q (o :: rest) a w :=
  wpListIn_plain hgd fun K hK' => by
    unfold Oper.wpIn
    refine ⟨by simp [Oper.about, ho], ?_⟩
    rw [Oper.semAt_plain F _ _ (by rw [ho]; intro c hc'; cases hc')]
    simp only [execOp, ho, hx, hy, Instr.storeAt, Instr.sureAddr, Sem.run_bind, Sem.run_pure, Result.andThen_ok, store_pair p' q' h]
    exact hK' _ _ hK
end
theorem wth_ops {s u v q E : Nat} (hs : s < 64) (hu : u < 6) (hv : v < 6) (hq : q < 15) (hE : E < 32768) : ∃ P1 P2 P3 M K F : Nat, P1 = 2 ^ u ∧ P2 = 2 ^ v ∧ P3 = 2 ^ q ∧ M = P1 ||| P2 ∧ K = s &&& M ∧ F = E ||| P3 ∧
    wrap64 ((2 : Int) ^ u) = (P1 : Int) ∧ IntKind.i64.wrap ((2 : Int) ^ u) = (P1 : Int) ∧ wrap64 ((2 : Int) ^ v) = (P2 : Int) ∧ IntKind.i64.wrap ((2 : Int) ^ v) = (P2 : Int) ∧ wrap64 ((2 : Int) ^ q) = (P3 : Int) ∧ IntKind.i64.wrap ((2 : Int) ^ q) = (P3 : Int) ∧
    bits .or .i64 (P1 : Int) (P2 : Int) = (M : Int) ∧ bits .and .i64 (s : Int) (M : Int) = (K : Int) ∧ bits .or .i64 (E : Int) (P3 : Int) = (F : Int) := by
  have l1 := pow_le u 5 (by omega)
  have l2 := pow_le v 5 (by omega)
  have l3 := pow_le q 15 (by omega)
  have iw : ∀ x : Int, IntKind.i64.wrap x = wrap64 x := fun x => by rw [IntKind.wrap_i64]; unfold wrap64; rfl
  have hM : 2 ^ u ||| 2 ^ v < 2 ^ 6 := Nat.or_lt_two_pow (Nat.lt_of_le_of_lt l1 (by decide)) (Nat.lt_of_le_of_lt l2 (by decide))
  exact ⟨_, _, _, _, _, _, rfl, rfl, rfl, rfl, rfl, rfl, wrap_pow u (by omega), (iw _).trans (wrap_pow u (by omega)), wrap_pow v (by omega), (iw _).trans (wrap_pow v (by omega)), wrap_pow q (by omega), (iw _).trans (wrap_pow q (by omega)),
    i64_or_nat _ _ (Nat.lt_of_le_of_lt l1 (by decide)) (Nat.lt_of_le_of_lt l2 (by decide)), i64_and_nat s _ (Nat.lt_trans hs (by decide)) (Nat.lt_trans hM (by decide)),
    i64_or_nat E _ (Nat.lt_trans hE (by decide)) (Nat.lt_of_le_of_lt l3 (by decide))⟩

set_option maxHeartbeats 4000000 in
theorem within_in (A : Option Addr) (c : Nat) (L : List Int) (hg : IsGraph L) (s : Nat) (hs : s < 64) (w : World) (h : Seen w A L) :
    CallsIn Fence.wide 6 Tryd.prog 72 #[.slice A L.length c, .int .i64 s] w fun e w' => e = .returned (.agg (prC s (wth s (edgesIn L (rows L.length)) : Nat))) ∧ Below w.heap.size w w' := by
  have h1 := hg.1
  have h6 := hg.2.1
  obtain ⟨n, hn⟩ : ∃ n, n = L.length := ⟨_, rfl⟩
  rw [← hn] at h1 h6 ⊢
  have HN := Lib.hid hn
  have H := Lib.hid h
  have HG := Lib.hid hg
  have ha := alloc_pair
  have hbu := build_pair
  clear h hg hn
  refine callsIn_of_wp_marks Tryd.func72 rfl trivial ?_ rfl
  simp only [Tryd.ntmps72, List.size_toArray, List.length_cons, List.length_nil, Nat.reduceAdd, Nat.reduceSub, Array.replicate_succ, Array.replicate_zero, List.push_toArray, List.append_toArray, List.nil_append, List.cons_append]
  gi_wp2_with (refine ⟨trivial, ?_⟩; gi_at_call 81; refine (callsIn_wide.2 (edgesIt_any _ _ _ _)).mono ?_; rintro e w' ⟨rfl, rfl⟩)
  obtain ⟨W, eW⟩ : ∃ W, W = (((w.alloc (.cells #[.int .i64 s] 3)).alloc (.cells (prC 0 0) 60)).alloc (.cells (prC s 0) 60)).alloc (.cells #[.slice A n c] 36) := ⟨_, rfl⟩
  have sW : W.heap.size = w.heap.size + 1 + 1 + 1 + 1 := by rw [eW]; simp
  have hBW : Below w.heap.size w W := by rw [eW]; exact ((((Below.refl _ w).alloc (Nat.le_refl _) _).alloc (by simp) _).alloc (by simp; omega) _).alloc (by simp; omega) _
  have b0 : Boxed W w.heap.size 3 (.int .i64 s) := by rw [eW]; exact (((Boxed.new w _ _).alloc _).alloc _).alloc _
  have b1 : PairAt W (w.heap.size + 1) 0 0 := by
    rw [eW]; have h := PairAt.new (w.alloc (.cells #[.int .i64 s] 3)) 0 0; rw [World.size_alloc] at h; exact (h.alloc _).alloc _
  have b2 : PairAt W (w.heap.size + 1 + 1) s 0 := by
    rw [eW]; have h := PairAt.new ((w.alloc (.cells #[.int .i64 s] 3)).alloc (.cells (prC 0 0) 60)) s 0; rw [World.size_alloc, World.size_alloc] at h; exact h.alloc _
  have b3 : Boxed W (w.heap.size + 1 + 1 + 1) 36 (.slice A n c) := by
    rw [eW]; have h := Boxed.new (((w.alloc (.cells #[.int .i64 s] 3)).alloc (.cells (prC 0 0) 60)).alloc (.cells (prC s 0) 60)) 36 (.slice A n c); rw [World.size_alloc, World.size_alloc, World.size_alloc] at h; exact h
  rw [← eW]
  clear eW ha hbu
  obtain ⟨n₀, en⟩ : ∃ n₀, n₀ = w.heap.size := ⟨_, rfl⟩
  rw [← en] at sW hBW b0 b1 b2 b3 ⊢
  have hle : n₀ ≤ w.heap.size := by omega
  have hleW : n₀ + 1 + 1 + 1 < W.heap.size := by omega
  have hsW : Seen W A L := H.out.below (by rw [← en]; exact hBW)
  have EN := Lib.hid en
  have SW := Lib.hid sW
  clear en sW
  refine wpIn_outer (α := Pr n) rfl (by omega) (gf := 86) (lb := #[.pointer (some ⟨n₀ + 1 + 1 + 1, 0, none⟩)]) rfl trivial (enters_of Tryd.func86 (by kernel_rfl) rfl)
    (edges_stops A c L n HN.out HG.out (n₀ + 1 + 1 + 1) W hleW b3 hsW) keepG_tr (fun W l o o' _ ho hc _ => keepG_bk W l o o' ho hc) (Below.refl _ _) (fun _ => rfl)
    (fun pre Z => (Boxed Z n₀ 3 (.int .i64 s) ∧ PairAt Z (n₀ + 1) 0 0 ∧ PairAt Z (n₀ + 1 + 1) s (wth s (vals pre) : Nat)) ∧ Below n₀ w Z) (fun _ _ _ => False)
    (OwnFrom.and (Own.from (fun s' X Y row hs hg hr => ⟨boxed_own _ _ (fun _ : Unit => _) () X Y row hs.1 hg hr, pair_own _ (fun _ : Unit => _) (fun _ => _) () X Y row hs.2.1 hg hr, pair_own _ (fun _ : Unit => _) (fun _ => _) () X Y row hs.2.2 hg hr⟩) _) (ownFrom_below hle (by have := SW.out; omega))) (fun _ _ _ _ _ hs _ _ => hs)
    ⟨⟨b0, b1, b2⟩, hBW⟩
    (fun x => { tmps := #[.slice A n c, .int .i64 s, undef, .pointer (some ⟨n₀, 0, none⟩), .pointer (some ⟨n₀ + 1, 0, none⟩), .pointer (some ⟨n₀ + 1 + 1, 0, none⟩), .int .i64 (x.1.1 : Int), .int .i64 (x.1.2 : Int), undef, .int .i64 s, .agg (prC s 0), .slice A n c,
      .func (.func 86) #[] #[.pointer (some ⟨n₀ + 1 + 1 + 1, 0, none⟩)], .int .i64 (x.1.1 : Int), .int .i64 (x.1.2 : Int), undef, undef, undef, undef, undef, undef, undef, undef, undef, undef, undef, undef, undef, undef, undef, undef, undef, undef, undef], defers := [] }) ?assign ?body ?done ?stop
  case assign =>
    intro l x Z K hK
    gi_wp2
    exact hK
  case body =>
    rintro l pre x Z ⟨⟨c0, c1, c2⟩, hB⟩ hlen
    have hst : wth s (vals (pre ++ [x])) = wthStep s (wth s (vals pre)) x.1 := by rw [vals_snoc, wth_snoc]
    have hE : wth s (vals pre) < 32768 := wth_lt h6 (fun p hp => by
      simp only [vals, List.mem_map] at hp
      obtain ⟨q, _, rfl⟩ := hp
      exact upto_all n _ _ q.2.1 q.2.2)
    obtain ⟨pr, epr⟩ : ∃ pr, pr = pre ++ [x] := ⟨_, rfl⟩
    rw [← epr] at hst ⊢
    obtain ⟨⟨u, v⟩, hu, hv⟩ := x
    dsimp only at hu hv hst ⊢
    have hq : plN (u, v) < 15 := plN_lt h6 (upto_all n u v hu hv)
    unfold wthStep at hst
    have HPL := Lib.hid (place_any u v (by omega) (by omega) (by omega))
    rw [show v * (v - 1) / 2 + u = plN (u, v) from rfl] at HPL
    obtain ⟨q, eq⟩ : ∃ q, q = plN (u, v) := ⟨_, rfl⟩
    rw [← eq] at hst hq HPL
    obtain ⟨E, eE⟩ : ∃ E, E = wth s (vals pre) := ⟨_, rfl⟩
    rw [← eE] at hE hst c2
    obtain ⟨P1, P2, P3, M, K2, F3, eP1, eP2, eP3, eM, eK, eF, p1, p1', p2, p2', p3, p3', f1, f2, f3⟩ := wth_ops hs (show u < 6 by omega) (show v < 6 by omega) hq hE
    rw [← eP1, ← eP2, ← eP3, ← eM, ← eK, ← eF] at hst
    have hq40 : q < 40 := Nat.lt_trans hq (by decide)
    have hu40 : u < 40 := Nat.lt_trans hu (Nat.lt_trans hv (Nat.lt_of_le_of_lt h6 (by decide)))
    have hv40 : v < 40 := Nat.lt_trans hv (Nat.lt_of_le_of_lt h6 (by decide))
    have z0 := c0.cell
    have C0 := Lib.hid c0
    have C1 := Lib.hid c1
    have C2 := Lib.hid c2
    have HB := Lib.hid hB
    have HST := Lib.hid hst
    have y0 : ∀ k, (Z.drewN k).cell? ⟨n₀, 0, none⟩ = some (.int .i64 s) := fun k => z0
    clear hst c0 c1 c2 hB epr eq eP1 eP2 eP3 eE eM eK eF hE hlen
    by_cases hKM : K2 = M
    · have hd : ((K2 : Int) == (M : Int)) = true := by simp [hKM]
      have HV := Lib.hid (HST.out.trans (if_pos hKM))
      clear HST hKM
      gi_wp2
      refine wpIn_quiet_round (by kernel_rfl) (by kernel_rfl) (by kernel_rfl) ?_
      repeat (quiet_step_in (fail))
      refine wpQuietIn_nil ?_
      rintro _ ⟨k, rfl⟩
      have yk := y0 k
      obtain ⟨Y, eY⟩ : ∃ Y, Y = Z.drewN k := ⟨_, rfl⟩
      have d2 : PairAt Y (n₀ + 1 + 1) s E := by rw [eY]; exact C2.out
      have x1 : Y.drew.cell? ⟨n₀ + 1 + 1, 1, none⟩ = some (.int .i64 E) := d2.cell1
      have x2 : Y.drew.frozen? ⟨n₀ + 1 + 1, 1, none⟩ = false := d2.frozen 1
      rw [← eY] at yk ⊢
      have EY := Lib.hid eY
      have D2 := Lib.hid d2
      clear eY y0 d2 z0
      gi_wp2
      obtain ⟨w2, ew2⟩ : ∃ w2, w2 = Y.drew := ⟨_, rfl⟩
      rw [← ew2] at x1 x2
      have EW := Lib.hid ew2
      clear ew2
      refine wpIn_tail_round 8 (by kernel_rfl) (by kernel_rfl) (by kernel_rfl) ?_
      simp only [List.take_succ_cons, List.take_zero, List.drop_succ_cons, List.drop_zero]
      rw [← EW.out]
      repeat still_step
      still_call ((HPL.out _).mono fun e w' ⟨he, hw⟩ => ⟨he, hw.symm⟩)
      repeat still_step
      refine wpStill_nil ?_
      gi_wp2
      have gz : Z.grownBy (w2.setCell ⟨n₀ + 1 + 1, 1, none⟩ (.int .i64 F3)) (some (n₀ + 1 + 1)) := by rw [EW.out, EY.out]; exact grown_set (grown_drew (grown_drewN (World.grownBy.refl Z (some (n₀ + 1 + 1))) k)) 1 _
      have hbw : Below n₀ w (w2.setCell ⟨n₀ + 1 + 1, 1, none⟩ (.int .i64 F3)) := HB.out.grown gz (by have := HB.out.size; omega) (fun k e => by injection e; omega)
      refine ⟨⟨?_, ⟨fun x => x.kept gz (fun e => by injection e; omega), fun _ => H.out.below (by rw [← EN.out]; exact hbw)⟩, ⟨C0.out.kept gz (fun e => by injection e; omega), C1.out.kept gz (fun e => by injection e; omega), ?_⟩, hbw⟩, lie_grown gz (by have := SW.out; omega)⟩
      · exact (KeepsOthers.of_grownBy gz (fun j o e ho => by cases e; rw [show Z.heap[n₀ + 1 + 1]? = _ from C2.out] at ho; cases ho; rfl)).from _
      · rw [HV.out, EW.out]
        exact (show PairAt Y.drew (n₀ + 1 + 1) s E from D2.out).set1 _
    · have hd : ((K2 : Int) == (M : Int)) = false := by simp; omega
      have HV := Lib.hid (HST.out.trans (if_neg hKM))
      clear HST hKM
      gi_wp2
      refine wpIn_quiet_round (by kernel_rfl) (by kernel_rfl) (by kernel_rfl) ?_
      repeat (quiet_step_in (fail))
      refine wpQuietIn_nil ?_
      rintro _ ⟨k, rfl⟩
      have yk := y0 k
      gi_wp2
      have gz : Z.grownBy (Z.drewN k) none := grown_drewN (World.grownBy.refl Z none) k
      have hbw : Below n₀ w (Z.drewN k) := HB.out.grown gz (by have := HB.out.size; omega) (fun k e => by cases e)
      refine ⟨⟨(KeepsOthers.of_grownBy gz (fun j o e ho => by cases e)).from _, ⟨fun x => x.kept gz (fun e => by cases e), fun _ => H.out.below (by rw [← EN.out]; exact hbw)⟩, ⟨C0.out, C1.out, ?_⟩, hbw⟩, fun k o _ _ h3 => h3⟩
      rw [HV.out]
      exact C2.out
  case done =>
    rintro D xs Z hD hS ⟨⟨c0, c1, c2⟩, hB⟩ hK
    obtain ⟨ys, hy, rfl⟩ := hS
    rw [vals_edgesOf, hy] at c2
    have C1 := Lib.hid c1
    have C2 := Lib.hid c2
    obtain ⟨E, eE⟩ : ∃ E, E = wth s (edgesIn L (rows n)) := ⟨_, rfl⟩
    rw [← eE] at C2
    have EE := Lib.hid eE
    have hne : D ≠ n₀ + 1 := fun e => by subst e; rw [show Z.heap[n₀ + 1]? = _ from c1] at hK; cases hK
    have hKS := (setRow_other Z (n₀ + 1) D (prC s E) hne).trans hK
    have h2 := (pair_own (β := Unit) (n₀ + 1) (fun _ => (s : Int)) (fun _ => (E : Int))).putObj (s := ()) (.deferred none) (c1.stored (s : Int) (E : Int)) hKS rfl
    clear c1 c0 c2 hy eE
    gi_wp2_with (first | refine stepIn_load_pair rfl (.tmp 5) rfl _ _ _ rfl C2.out ?_ | refine stepIn_store_pair rfl (.tmp 4) (.tmp 33) rfl _ _ _ _ _ rfl rfl C1.out ?_)
    refine ⟨by simp, .inl ⟨_, _, rfl, run_takeDeferred hKS, ?_⟩⟩
    obtain ⟨d, hd⟩ := pair_desc
    refine ⟨_, results_cell_row rfl _ _ _ _ _ _ _ rfl h2 hd rfl pair_info, ?_⟩
    refine ⟨by rw [← EE.out], ?_⟩
    rw [← EN.out]
    exact (below_setRowP hB (by omega) _).trans (belowK_b (w := w) hle _ D _ _ (by have := EN.out; have := SW.out; omega) hKS rfl rfl)
  case stop =>
    rintro D cd pre W _ _ h _
    exact h.elim
end Go.Proofs.YtcblcifnpgmibaaDoor
