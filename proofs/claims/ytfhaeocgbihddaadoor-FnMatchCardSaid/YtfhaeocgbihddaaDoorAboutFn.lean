/- The nodes of a set of edges, as the program finds them. -/
import Derived.Test.YtfhaeocgbihddaaDoorBaseS
import Derived.Test.YtfhaeocgbihddaaDoorMatchMax
namespace Go.Proofs.YtfhaeocgbihddaaDoor
open Go.RowKit Go.Shelf
attribute [local go_sem] Oper.semAt_some
set_option linter.unusedVariables false
set_option maxRecDepth 100000

def abStep (E N : Nat) (p : Nat × Nat) : Nat := if E.testBit (plN p) = true then N ||| ePr p else N
def abt (E : Nat) (es : List (Nat × Nat)) : Nat := es.foldl (abStep E) 0
theorem abt_snoc (E : Nat) (es : List (Nat × Nat)) (p : Nat × Nat) : abt E (es ++ [p]) = abStep E (abt E es) p := by simp [abt]
theorem nd_snoc (es : List (Nat × Nat)) (p : Nat × Nat) : nd (es ++ [p]) = nd es ||| ePr p := by
  induction es with
  | nil => show ePr p ||| 0 = 0 ||| ePr p; rw [Nat.or_zero, Nat.zero_or]
  | cons e es ih => show ePr e ||| nd (es ++ [p]) = (ePr e ||| nd es) ||| ePr p; rw [ih, Nat.or_assoc]
theorem abt_nd (E : Nat) (es : List (Nat × Nat)) : abt E es = nd (es.filter fun p => E.testBit (plN p)) := by
  induction es using snoc_ind with
  | h0 => rfl
  | h1 l x ih =>
    rw [abt_snoc, List.filter_append, ih]
    unfold abStep
    by_cases h : E.testBit (plN x) = true
    · rw [if_pos h, show [x].filter (fun p => E.testBit (plN p)) = [x] by simp [h], nd_snoc]
    · rw [if_neg h, show [x].filter (fun p => E.testBit (plN p)) = [] by simp [h], List.append_nil]
theorem abt_lt {n E : Nat} (hn : n ≤ 6) {es : List (Nat × Nat)} (h : ∀ p ∈ es, p ∈ rows n) : abt E es < 64 := by
  rw [abt_nd]
  exact nd_lt (rows_prs hn fun e he => h e (List.mem_filter.1 he).1)
theorem build_pair1 (x : Int) (W : World) : (Instr.build 67 #[(1, .int .i64 x)]).run Tryd.prog W = .ok (.agg (prC 0 x)) W := by kernel_rfl
theorem field_pair0 (B : Nat) (W : World) : (Instr.fieldAt 67 (.pointer (some ⟨B, 0, none⟩)) 0).run Tryd.prog W = .ok (.pointer (some ⟨B, 0, none⟩)) W := by rfl
theorem abt_ops {u v N : Nat} (hu : u < 6) (hv : v < 6) (hN : N < 64) : ∃ P1 P2 M F : Nat, P1 = 2 ^ u ∧ P2 = 2 ^ v ∧ M = P1 ||| P2 ∧ F = N ||| M ∧
    wrap64 ((2 : Int) ^ u) = (P1 : Int) ∧ IntKind.i64.wrap ((2 : Int) ^ u) = (P1 : Int) ∧ wrap64 ((2 : Int) ^ v) = (P2 : Int) ∧ IntKind.i64.wrap ((2 : Int) ^ v) = (P2 : Int) ∧
    bits .or .i64 (P1 : Int) (P2 : Int) = (M : Int) ∧ bits .or .i64 (N : Int) (M : Int) = (F : Int) := by
  have l1 := pow_le u 5 (by omega)
  have l2 := pow_le v 5 (by omega)
  have iw : ∀ x : Int, IntKind.i64.wrap x = wrap64 x := fun x => by rw [IntKind.wrap_i64]; unfold wrap64; rfl
  have hM : 2 ^ u ||| 2 ^ v < 2 ^ 6 := Nat.or_lt_two_pow (Nat.lt_of_le_of_lt l1 (by decide)) (Nat.lt_of_le_of_lt l2 (by decide))
  exact ⟨_, _, _, _, rfl, rfl, rfl, rfl, wrap_pow u (by omega), (iw _).trans (wrap_pow u (by omega)), wrap_pow v (by omega), (iw _).trans (wrap_pow v (by omega)),
    i64_or_nat _ _ (Nat.lt_of_le_of_lt l1 (by decide)) (Nat.lt_of_le_of_lt l2 (by decide)), i64_or_nat N _ (Nat.lt_trans hN (by decide)) (Nat.lt_trans hM (by decide))⟩

set_option maxHeartbeats 4000000 in
theorem about_in (A : Option Addr) (c : Nat) (L : List Int) (hg : IsGraph L) (s : Nat) (hs : s < 32768) (w : World) (h : Seen w A L) :
    CallsIn Fence.wide 6 Tryd.prog 72 #[.slice A L.length c, .int .i64 s] w fun e w' => e = .returned (.agg (prC (abt s (edgesIn L (rows L.length)) : Nat) s)) ∧ Below w.heap.size w w' := by
  have h1 := hg.1
  have h6 := hg.2.1
  obtain ⟨n, hn⟩ : ∃ n, n = L.length := ⟨_, rfl⟩
  rw [← hn] at h1 h6 ⊢
  have HN := Lib.hid hn
  have H := Lib.hid h
  have HG := Lib.hid hg
  have ha := alloc_pair
  have hbu := build_pair1
  clear h hg hn
  refine callsIn_of_wp_marks Tryd.func72 rfl trivial ?_ rfl
  simp only [Tryd.ntmps72, List.size_toArray, List.length_cons, List.length_nil, Nat.reduceAdd, Nat.reduceSub, Array.replicate_succ, Array.replicate_zero, List.push_toArray, List.append_toArray, List.nil_append, List.cons_append]
  gi_wp2_with (refine ⟨trivial, ?_⟩; gi_at_call 62; refine (callsIn_wide.2 (edgesIt_any _ _ _ _)).mono ?_; rintro e w' ⟨rfl, rfl⟩)
  obtain ⟨W, eW⟩ : ∃ W, W = (((w.alloc (.cells #[.int .i64 s] 3)).alloc (.cells (prC 0 0) 67)).alloc (.cells (prC 0 s) 67)).alloc (.cells #[.slice A n c] 34) := ⟨_, rfl⟩
  have sW : W.heap.size = w.heap.size + 1 + 1 + 1 + 1 := by rw [eW]; simp
  have hBW : Below w.heap.size w W := by rw [eW]; exact ((((Below.refl _ w).alloc (Nat.le_refl _) _).alloc (by simp) _).alloc (by simp; omega) _).alloc (by simp; omega) _
  have b0 : Boxed W w.heap.size 3 (.int .i64 s) := by rw [eW]; exact (((Boxed.new w _ _).alloc _).alloc _).alloc _
  have b1 : PairAt W (w.heap.size + 1) 0 0 := by
    rw [eW]; have h := PairAt.new (w.alloc (.cells #[.int .i64 s] 3)) 0 0; rw [World.size_alloc] at h; exact (h.alloc _).alloc _
  have b2 : PairAt W (w.heap.size + 1 + 1) 0 s := by
    rw [eW]; have h := PairAt.new ((w.alloc (.cells #[.int .i64 s] 3)).alloc (.cells (prC 0 0) 67)) 0 s; rw [World.size_alloc, World.size_alloc] at h; exact h.alloc _
  have b3 : Boxed W (w.heap.size + 1 + 1 + 1) 34 (.slice A n c) := by
    rw [eW]; have h := Boxed.new (((w.alloc (.cells #[.int .i64 s] 3)).alloc (.cells (prC 0 0) 67)).alloc (.cells (prC 0 s) 67)) 34 (.slice A n c); rw [World.size_alloc, World.size_alloc, World.size_alloc] at h; exact h
  rw [← eW]
  clear eW ha hbu
  obtain ⟨n₀, en⟩ : ∃ n₀, n₀ = w.heap.size := ⟨_, rfl⟩
  rw [← en] at sW hBW b0 b1 b2 b3 ⊢
  have hle : n₀ ≤ w.heap.size := by omega
  have hleW : n₀ + 1 + 1 + 1 < W.heap.size := by omega
  have hsW : Seen W A L := H.out.below (by rw [← en]; exact hBW)
  have EN := Lib.hid en
  have SW := Lib.hid sW
  clear en sW
  refine wpIn_outer (α := Pr n) rfl (by omega) (gf := 73) (lb := #[.pointer (some ⟨n₀ + 1 + 1 + 1, 0, none⟩)]) rfl trivial (enters_of Tryd.func73 (by kernel_rfl) rfl)
    (edges_stops A c L n HN.out HG.out (n₀ + 1 + 1 + 1) W hleW b3 hsW) keepG_tr (fun W l o o' _ ho hc _ => keepG_bk W l o o' ho hc) (Below.refl _ _) (fun _ => rfl)
    (fun pre Z => (Boxed Z n₀ 3 (.int .i64 s) ∧ PairAt Z (n₀ + 1) 0 0 ∧ PairAt Z (n₀ + 1 + 1) (abt s (vals pre) : Nat) s) ∧ Below n₀ w Z) (fun _ _ _ => False)
    (OwnFrom.and (Own.from (fun s' X Y row hs hg hr => ⟨boxed_own _ _ (fun _ : Unit => _) () X Y row hs.1 hg hr, pair_own _ (fun _ : Unit => _) (fun _ => _) () X Y row hs.2.1 hg hr, pair_own _ (fun _ : Unit => _) (fun _ => _) () X Y row hs.2.2 hg hr⟩) _) (ownFrom_below hle (by have := SW.out; omega))) (fun _ _ _ _ _ hs _ _ => hs)
    ⟨⟨b0, b1, b2⟩, hBW⟩
    (fun x => { tmps := #[.slice A n c, .int .i64 s, undef, .pointer (some ⟨n₀, 0, none⟩), .pointer (some ⟨n₀ + 1, 0, none⟩), .pointer (some ⟨n₀ + 1 + 1, 0, none⟩), .int .i64 (x.1.1 : Int), .int .i64 (x.1.2 : Int), .int .i64 s, .agg (prC 0 s), .slice A n c,
      .func (.func 73) #[] #[.pointer (some ⟨n₀ + 1 + 1 + 1, 0, none⟩)], .int .i64 (x.1.1 : Int), .int .i64 (x.1.2 : Int), undef, undef, undef, undef, undef, undef, undef, undef, undef, undef, undef, undef, undef, undef, undef, undef, undef], defers := [] }) ?assign ?body ?done ?stop
  case assign =>
    intro l x Z K hK
    gi_wp2
    exact hK
  case body =>
    rintro l pre x Z ⟨⟨c0, c1, c2⟩, hB⟩ hlen
    have hst : abt s (vals (pre ++ [x])) = abStep s (abt s (vals pre)) x.1 := by rw [vals_snoc, abt_snoc]
    have hN : abt s (vals pre) < 64 := abt_lt h6 (fun p hp => by
      simp only [vals, List.mem_map] at hp
      obtain ⟨q, _, rfl⟩ := hp
      exact upto_all n _ _ q.2.1 q.2.2)
    obtain ⟨pr, epr⟩ : ∃ pr, pr = pre ++ [x] := ⟨_, rfl⟩
    rw [← epr] at hst ⊢
    obtain ⟨⟨u, v⟩, hu, hv⟩ := x
    dsimp only at hu hv hst ⊢
    have hq : plN (u, v) < 15 := plN_lt h6 (upto_all n u v hu hv)
    unfold abStep ePr at hst
    dsimp only at hst
    have HPL := Lib.hid (place_any u v (by omega) (by omega) (by omega))
    rw [show v * (v - 1) / 2 + u = plN (u, v) from rfl] at HPL
    obtain ⟨q, eq⟩ : ∃ q, q = plN (u, v) := ⟨_, rfl⟩
    rw [← eq] at hst hq HPL
    obtain ⟨N, eN⟩ : ∃ N, N = abt s (vals pre) := ⟨_, rfl⟩
    rw [← eN] at hN hst c2
    obtain ⟨P1, P2, M, F3, eP1, eP2, eM, eF, p1, p1', p2, p2', f1, f3⟩ := abt_ops (show u < 6 by omega) (show v < 6 by omega) hN
    rw [← eP1, ← eP2, ← eM, ← eF] at hst
    obtain ⟨t, et, ht, ft⟩ := and_facts s q (Nat.lt_trans hs (by decide))
    have hbt : s.testBit q = decide (t = 1) := by rw [Bool.eq_iff_iff, ← tb, decide_eq_true_eq, et]
    rw [hbt] at hst
    have hq40 : q < 40 := Nat.lt_trans hq (by decide)
    have hu40 : u < 40 := Nat.lt_trans hu (Nat.lt_trans hv (Nat.lt_of_le_of_lt h6 (by decide)))
    have hv40 : v < 40 := Nat.lt_trans hv (Nat.lt_of_le_of_lt h6 (by decide))
    have z0 := c0.cell
    have C0 := Lib.hid c0
    have C1 := Lib.hid c1
    have C2 := Lib.hid c2
    have HB := Lib.hid hB
    have HST := Lib.hid hst
    have y0 : ∀ k, (Z.drewN k).cell? ⟨n₀, 0, none⟩ = some (.int .i64 s) := fun k => z0
    have htt : t = 0 ∨ t = 1 := by clear p1 p1' p2 p2' f1 f3 ft; omega
    clear hst c0 c1 c2 hB epr eq eP1 eP2 eM eF eN hN hlen et hbt ht
    rcases htt with rfl | rfl
    · have e0 : (((0 : Nat) : Int) == 1) = false := rfl
      have HV := Lib.hid (HST.out.trans (if_neg (by simp)))
      clear HST
      gi_wp2
      refine wpIn_quiet_round (by kernel_rfl) (by kernel_rfl) (by kernel_rfl) ?_
      quiet_step_in (fail)
      quiet_step_in (fail)
      quiet_step_in (fail)
      refine wpQuietIn_step (fun _ _ _ _ => trivial) (fun K hK => ?_)
      go_simp
      apply Exists.intro
      refine ⟨fun _ => ?_, hK _ ?_⟩
      · exact CallsIn.quiet_of_same ((CallsIn.inRound l (callsIn_wide.2 (HPL.out _))).mono fun e w' ⟨he, hw⟩ => ⟨he, hw.symm⟩)
      clear hK K
      repeat (quiet_step_in (fail))
      refine wpQuietIn_nil ?_
      rintro _ ⟨k, rfl⟩
      gi_wp2
      have gz : Z.grownBy (Z.drewN k) none := grown_drewN (World.grownBy.refl Z none) k
      have hbw : Below n₀ w (Z.drewN k) := HB.out.grown gz (by have := HB.out.size; omega) (fun k e => by cases e)
      refine ⟨⟨(KeepsOthers.of_grownBy gz (fun j o e ho => by cases e)).from _, ⟨fun x => x.kept gz (fun e => by cases e), fun _ => H.out.below (by rw [← EN.out]; exact hbw)⟩, ⟨C0.out, C1.out, ?_⟩, hbw⟩, fun k o _ _ h3 => h3⟩
      rw [HV.out]
      exact C2.out
    · have e0 : (((1 : Nat) : Int) == 1) = true := rfl
      have HV := Lib.hid (HST.out.trans (if_pos (by simp)))
      clear HST
      gi_wp2
      refine wpIn_quiet_round (by kernel_rfl) (by kernel_rfl) (by kernel_rfl) ?_
      quiet_step_in (fail)
      quiet_step_in (fail)
      quiet_step_in (fail)
      refine wpQuietIn_step (fun _ _ _ _ => trivial) (fun K hK => ?_)
      go_simp
      apply Exists.intro
      refine ⟨fun _ => ?_, hK _ ?_⟩
      · exact CallsIn.quiet_of_same ((CallsIn.inRound l (callsIn_wide.2 (HPL.out _))).mono fun e w' ⟨he, hw⟩ => ⟨he, hw.symm⟩)
      clear hK K
      repeat (quiet_step_in (fail))
      refine wpQuietIn_nil ?_
      rintro _ ⟨k, rfl⟩
      obtain ⟨Y, eY⟩ : ∃ Y, Y = Z.drewN k := ⟨_, rfl⟩
      have d2 : PairAt Y (n₀ + 1 + 1) N s := by rw [eY]; exact C2.out
      have x1 : Y.drew.cell? ⟨n₀ + 1 + 1, 0, none⟩ = some (.int .i64 N) := d2.cell0
      have x2 : Y.drew.frozen? ⟨n₀ + 1 + 1, 0, none⟩ = false := d2.frozen 0
      rw [← eY]
      have EY := Lib.hid eY
      have D2 := Lib.hid d2
      clear eY y0 d2 z0
      gi_wp2
      obtain ⟨w2, ew2⟩ : ∃ w2, w2 = Y.drew := ⟨_, rfl⟩
      rw [← ew2] at x1 x2
      have EW := Lib.hid ew2
      clear ew2
      refine wpIn_tail_round 9 (by kernel_rfl) (by kernel_rfl) (by kernel_rfl) ?_
      simp only [List.take_succ_cons, List.take_zero, List.drop_succ_cons, List.drop_zero]
      rw [← EW.out]
      repeat still_step
      refine wpStill_nil ?_
      gi_wp2
      have gz : Z.grownBy (w2.setCell ⟨n₀ + 1 + 1, 0, none⟩ (.int .i64 F3)) (some (n₀ + 1 + 1)) := by rw [EW.out, EY.out]; exact grown_set (grown_drew (grown_drewN (World.grownBy.refl Z (some (n₀ + 1 + 1))) k)) 0 _
      have hbw : Below n₀ w (w2.setCell ⟨n₀ + 1 + 1, 0, none⟩ (.int .i64 F3)) := HB.out.grown gz (by have := HB.out.size; omega) (fun k e => by injection e; omega)
      refine ⟨⟨(KeepsOthers.of_grownBy gz (fun j o e ho => by cases e; rw [show Z.heap[n₀ + 1 + 1]? = _ from C2.out] at ho; cases ho; rfl)).from _, ⟨fun x => x.kept gz (fun e => by injection e; omega), fun _ => H.out.below (by rw [← EN.out]; exact hbw)⟩, ⟨C0.out.kept gz (fun e => by injection e; omega), C1.out.kept gz (fun e => by injection e; omega), ?_⟩, hbw⟩, lie_grown gz (by have := SW.out; omega)⟩
      rw [HV.out, EW.out]
      exact (show PairAt Y.drew (n₀ + 1 + 1) N s from D2.out).set0 _
  case done =>
    rintro D xs Z hD hS ⟨⟨c0, c1, c2⟩, hB⟩ hK
    obtain ⟨ys, hy, rfl⟩ := hS
    rw [vals_edgesOf, hy] at c2
    have C1 := Lib.hid c1
    have C2 := Lib.hid c2
    obtain ⟨E, eE⟩ : ∃ E, E = abt s (edgesIn L (rows n)) := ⟨_, rfl⟩
    rw [← eE] at C2
    have EE := Lib.hid eE
    have hne : D ≠ n₀ + 1 := fun e => by subst e; rw [show Z.heap[n₀ + 1]? = _ from c1] at hK; cases hK
    have hKS := (setRow_other Z (n₀ + 1) D (prC E s) hne).trans hK
    have h2 := (pair_own (β := Unit) (n₀ + 1) (fun _ => (E : Int)) (fun _ => (s : Int))).putObj (s := ()) (.deferred none) (c1.stored (E : Int) (s : Int)) hKS rfl
    clear c1 c0 c2 hy eE
    gi_wp2_with (first | refine stepIn_load_pair rfl (.tmp 5) rfl _ _ _ rfl C2.out ?_ | refine stepIn_store_pair rfl (.tmp 4) (.tmp 30) rfl _ _ _ _ _ rfl rfl C1.out ?_)
    refine ⟨by simp, .inl ⟨_, _, rfl, run_takeDeferred hKS, ?_⟩⟩
    obtain ⟨d, hd⟩ := pair_desc
    refine ⟨_, results_cell_row rfl _ _ _ _ _ _ _ rfl h2 hd rfl pair_info, ?_⟩
    refine ⟨by rw [← EE.out], ?_⟩
    rw [← EN.out]
    exact (below_setRowP hB (by omega) _).trans (belowK_b (w := w) hle _ D _ _ (by have := EN.out; have := SW.out; omega) hKS rfl rfl)
  case stop =>
    rintro D cd pre W _ _ h _
    exact h.elim
end Go.Proofs.YtfhaeocgbihddaaDoor
