/- The program's switchLeast: the least code of the graphs in which some node has no neighbours. -/
import Derived.Test.YtamabhdbcmjbjaaDoorSwitchedFn
import Derived.Test.YtamabhdbcmjbjaaDoorImplLeast
import Derived.Test.YtamabhdbcmjbjaaDoorBaseA
import Derived.Test.YtamabhdbcmjbjaaDoorSpecLeast
namespace Go.Proofs.YtamabhdbcmjbjaaDoor
open Go.RowKit Go.Shelf
attribute [local go_sem] Oper.semAt_some
set_option linter.unusedVariables false
set_option maxRecDepth 100000

def slF (L : List Int) (v : Nat) : Nat := leastL (swL L (ent L v))
def SlI (n₀ n : Nat) (S : Value) (L : List Int) (Q : Nat) (pre : List (Nd n Q)) (W : World) : Prop :=
  Boxed W n₀ 41 S ∧ ∃ p, Boxed W p 3 (.int .i64 (minF (slF L) (leastL L) (valsN pre) : Nat))
def SlJ (n₀ p n : Nat) (S : Value) (L : List Int) (Q : Nat) (pre : List (Nd n Q)) (W : World) : Prop :=
  Boxed W n₀ 41 S ∧ Boxed W p 3 (.int .i64 (minF (slF L) (leastL L) (valsN pre) : Nat))
theorem slJ_own (n₀ p n : Nat) (S : Value) (L : List Int) (Q : Nat) : Own (SlJ n₀ p n S L Q) := fun s X Y row hs hg hr =>
  ⟨boxed_own _ _ (fun _ : Unit => _) () X Y row hs.1 hg hr, boxed_own _ _ (fun _ : Unit => _) () X Y row hs.2 hg hr⟩
theorem least_tiny {L : List Int} (hg : IsGraph L) : leastL L < 32768 := by
  obtain ⟨P, hP, e⟩ := least_is hg
  rw [e]
  unfold codeOf
  rw [namedL_length]
  exact crun_small _ _ (rows_length _ hg.2.1)

set_option maxHeartbeats 4000000 in
theorem switchLeast_in (A : Option Addr) (c : Nat) (L : List Int) (hg : IsGraph L) (w : World) (h : Seen w A L) (hT : Tab w) :
    CallsIn Fence.wide 12 Tryd.prog 24 #[.slice A L.length c] w (NumA w (swLeast L)) := by
  have h1 := hg.1
  have h6 := hg.2.1
  have h2 := hT.lt
  obtain ⟨blk, off, hA0, hbl0, _⟩ := h 0 (by omega)
  subst hA0
  have hT0 : Tab (w.alloc (.cells #[.slice (some ⟨blk, off, none⟩) L.length c] 41)) := hT.below ((Below.refl _ w).alloc (Nat.le_refl _) _) h2
  have HLE := Lib.hid (callsIn_wide.1 (implLeast_in (some ⟨blk, off, none⟩) c L hg (w.alloc (.cells #[.slice (some ⟨blk, off, none⟩) L.length c] 41)) (h.below ((Below.refl _ w).alloc (Nat.le_refl _) _)) hT0))
  have hsw : swLeast L = minF (slF L) (leastL L) (List.range L.length) := rfl
  obtain ⟨n, hn⟩ : ∃ n, n = L.length := ⟨_, rfl⟩
  have hp := two_pos n
  obtain ⟨Q, hQ⟩ : ∃ Q, Q + 1 = 2 ^ n := ⟨2 ^ n - 1, by omega⟩
  rw [hsw]
  rw [← hn] at h1 h6 HLE ⊢
  obtain ⟨n₀, en⟩ : ∃ n₀, n₀ = w.heap.size := ⟨_, rfl⟩
  have h2n : 2 ≤ n₀ := by rw [en]; exact h2
  have x0 := Boxed.new w 41 (.slice (some ⟨blk, off, none⟩) n c)
  have bb := (Below.refl w.heap.size w).alloc (Nat.le_refl _) (.cells #[.slice (some ⟨blk, off, none⟩) n c] 41)
  rw [← en] at x0 bb
  have X0 := Lib.hid x0
  have BB := Lib.hid bb
  have HG := Lib.hid hg
  have HN := Lib.hid hn
  have H := Lib.hid h
  have HQ := Lib.hid hQ
  have TB := Lib.hid hT
  have EN := Lib.hid en
  obtain ⟨w1, ew1⟩ : ∃ w1, w1 = w.alloc (.cells #[.slice (some ⟨blk, off, none⟩) n c] 41) := ⟨_, rfl⟩
  have y0 := x0.cell
  rw [← ew1] at HLE X0 BB
  have EW1 := Lib.hid ew1
  have hsz : w1.heap.size = n₀ + 1 := by rw [ew1, en]; simp
  rw [en] at y0
  clear hg hn h hQ hT hp hT0 hsw en ew1 x0 bb h2
  refine callsIn_of_wp_marks Tryd.func24 rfl trivial ?_ rfl
  simp only [Tryd.ntmps24, List.size_toArray, List.length_cons, List.length_nil, Nat.reduceAdd, Nat.reduceSub, Array.replicate_succ, Array.replicate_zero, List.push_toArray, List.append_toArray, List.nil_append, List.cons_append]
  gi_wp2_with (first
    | (refine ⟨trivial, ?_⟩; gi_at_call 28; rw [← EW1.out]; refine (callsIn_wide.2 HLE.out).mono ?_; rintro e w2 ⟨rfl, hb⟩
       have r0 : Boxed w2 n₀ 41 (.slice (some ⟨blk, off, none⟩) n c) := (hb.block n₀ (by omega)).trans X0.out
       have y1 : w2.cell? ⟨w.heap.size, 0, none⟩ = some (.slice (some ⟨blk, off, none⟩) n c) := by rw [← EN.out]; exact r0.cell
       have y2 : ∀ o, (w2.alloc o).cell? ⟨w.heap.size, 0, none⟩ = some (.slice (some ⟨blk, off, none⟩) n c) := fun o => by rw [← EN.out]; exact (r0.alloc o).cell
       have R0 := Lib.hid r0
       have HB2 := Lib.hid (BB.out.trans (hb.mono (by omega)))
       have HSZ := Lib.hid hb.size
       clear r0 hb)
    | (refine ⟨trivial, ?_⟩; gi_at_call 52; refine (callsIn_wide.2 (nodes_any _ n c Q h6 HQ.out _)).mono ?_; rintro e w' ⟨rfl, rfl⟩))
  obtain ⟨p, ep⟩ : ∃ p, p = w2.heap.size := ⟨_, rfl⟩
  obtain ⟨W, eW⟩ : ∃ W, W = (w2.alloc (.cells #[.int .i64 (leastL L : Nat)] 3)).alloc (.cells #[.int .i64 (Q : Nat)] 3) := ⟨_, rfl⟩
  have sW : W.heap.size = p + 1 + 1 := by rw [eW, ep]; simp
  have hnp : n₀ < p := by rw [ep]; have := HSZ.out; omega
  have b0 : Boxed W n₀ 41 (.slice (some ⟨blk, off, none⟩) n c) := by rw [eW]; exact (R0.out.alloc _).alloc _
  have b1 : Boxed W p 3 (.int .i64 (leastL L : Nat)) := by rw [eW, ep]; exact (Boxed.new w2 _ _).alloc _
  have b2 : W.cell? ⟨p + 1, 0, none⟩ = some (.int .i64 (Q : Nat)) := by
    rw [eW, ep]; have h := Boxed.new (w2.alloc (.cells #[.int .i64 (leastL L : Nat)] 3)) 3 (.int .i64 (Q : Nat)); rw [World.size_alloc] at h; exact h.cell
  have hBW : Below n₀ w W := by rw [eW]; exact (HB2.out.alloc (by omega) _).alloc (by simp; omega) _
  have hT1 : Tab W := TB.out.below hBW h2n
  rw [← EN.out, ← ep, ← eW]
  have hle : n₀ ≤ w.heap.size := by rw [EN.out]; exact Nat.le_refl _
  have hQ2 : Q < 2 ^ n := by have := HQ.out; omega
  clear eW ep y0 y1 y2 R0 HB2 HSZ HLE X0 BB hsz
  refine wpIn_rangeFunc_ownF (α := Nd n Q) rfl (by omega) (gf := 76) (lb := #[.pointer (some ⟨p + 1, 0, none⟩)]) rfl trivial (enters_of Tryd.func76 (by kernel_rfl) rfl)
    (nodes_stops _ (p + 1) n Q n₀ (by omega) h6 hQ2 W (by omega) b2 hT1 h2n (by omega)) belowK_t (belowK_b (by omega)) (Below.refl _ _) (fun _ => rfl)
    (fun pre Z => SlJ n₀ p n (.slice (some ⟨blk, off, none⟩) n c) L Q pre Z ∧ Below n₀ w Z) (fun _ _ _ => False)
    (OwnFrom.and (Own.from (slJ_own _ _ _ _ _ _) _) (ownFrom_below hle (by omega))) (fun _ _ _ _ _ hs _ _ => hs)
    ⟨⟨b0, b1⟩, hBW⟩
    (fun x => { tmps := #[.slice (some ⟨blk, off, none⟩) n c, .pointer (some ⟨n₀, 0, none⟩), .int .i64 0, .pointer (some ⟨p, 0, none⟩), .int .i64 (x.1 : Int), .slice (some ⟨blk, off, none⟩) n c, .int .i64 (leastL L : Nat), .slice (some ⟨blk, off, none⟩) n c,
      .func (.func 76) #[] #[.pointer (some ⟨p + 1, 0, none⟩)], .int .i64 (x.1 : Int), undef, undef, undef, undef, undef, undef, undef, undef, undef, undef, undef], defers := [] }) ?assign ?body ?done ?stop
  case assign =>
    intro l x W K hK
    gi_wp2
    exact hK
  case body =>
    rintro l pre x Z ⟨⟨c0, c1⟩, hB⟩ hlen
    obtain ⟨v, hvn, hvq⟩ := x
    dsimp only at hvn ⊢
    have hvL : v < L.length := by have := HN.out; omega
    obtain ⟨blk1, off1, hA1, hbl1, hc1⟩ := H.out v hvL
    have e1 : blk = blk1 ∧ off = off1 := by injection hA1 with e; injection e with e1 e2; exact ⟨e1, e2⟩
    obtain ⟨rfl, rfl⟩ := e1
    have hin := (HG.out.2.2 v hvL).1
    have hX := ent_int hin
    have hXl := ent_lt hin
    rw [hX] at hc1
    have hbn : blk < n₀ := by rw [EN.out]; exact hbl0
    have hsZ : Seen Z.drew (some ⟨blk, off, none⟩) L := H.out.below (by rw [← EN.out]; exact hB.drew)
    have hTZ : Tab Z.drew := TB.out.below hB.drew (by omega)
    have hst : minF (slF L) (leastL L) (valsN (pre ++ [(⟨v, hvn, hvq⟩ : Nd n Q)])) = min (minF (slF L) (leastL L) (valsN pre)) (leastL (swL L (ent L v))) := by rw [valsN_snoc, minF_snoc]; rfl
    obtain ⟨X, eX⟩ : ∃ X, X = ent L v := ⟨_, rfl⟩
    rw [← eX] at hc1 hXl hst
    have HSW := Lib.hid (callsIn_wide.1 (switchedAt_in (some ⟨blk, off, none⟩) c X L HG.out hXl Z.drew hsZ hTZ))
    rw [← HN.out] at HSW
    have HSG := Lib.hid (sw_graph HG.out hXl)
    have hsl : (swL L X).length = n := by rw [swL_length]; exact HN.out.symm
    have HSLN := Lib.hid hsl
    obtain ⟨y, ey⟩ : ∃ y, y = minF (slF L) (leastL L) (valsN pre) := ⟨_, rfl⟩
    rw [← ey] at hst c1
    have HST := Lib.hid hst
    have C0 := Lib.hid c0
    have C1 := Lib.hid c1
    have HB := Lib.hid hB
    have HTZ := Lib.hid hTZ
    have z0 : Z.drew.cell? ⟨n₀, 0, none⟩ = some (.slice (some ⟨blk, off, none⟩) n c) := c0.cell
    have z1 : Z.drew.cell? ⟨p, 0, none⟩ = some (.int .i64 y) := c1.cell
    have zX : Z.drew.cell? ⟨blk, off + v, none⟩ = some (.int .i64 X) := (hB.drew.cell (p := ⟨blk, off + v, none⟩) hbn).trans hc1
    have hS0 : Z.drew.cell? ⟨n₀, 0, none⟩ = some (.slice (some ⟨blk, off, none⟩) n c) ∧ Z.drew.cell? ⟨p, 0, none⟩ = some (.int .i64 y) ∧ Z.drew.cell? ⟨blk, off + v, none⟩ = some (.int .i64 X) := ⟨z0, z1, zX⟩
    have hi1 : (0 : Int) ≤ (v : Int) ∧ (v : Int) < (n : Int) := by omega
    have hfd : ∀ (A : Option Addr) (l c : Nat) (w : World), (Instr.field 49 (.agg #[.slice A l c]) 0).run Tryd.prog w = .ok (.slice A l c) w := fun _ _ _ _ => rfl
    clear c0 c1 hst hsZ hTZ hvL hB hsl hX hin hXl eX ey hA1 hc1 hbl1
    gi_wp2
    refine wpIn_held_round 9 (fun W' => W'.cell? ⟨n₀, 0, none⟩ = some (.slice (some ⟨blk, off, none⟩) n c) ∧ W'.cell? ⟨p, 0, none⟩ = some (.int .i64 y) ∧ W'.cell? ⟨blk, off + v, none⟩ = some (.int .i64 X)) (by kernel_rfl) (by rfl) (by kernel_rfl) (by kernel_rfl) (by kernel_rfl) (by kernel_rfl) ?_
    simp only [List.take_succ_cons, List.take_zero, List.drop_succ_cons, List.drop_zero]
    refine wpAnyH_take (i := 0) (v := .int .i64 (y : Nat)) rfl (by kernel_rfl) (by kernel_rfl) (by kernel_rfl) (fun _ _ _ h => h) (Or.inl ⟨by rfl, ?_⟩) hS0 ?_
    · rintro w' ⟨q0, q1, q2⟩
      go_simp
    simp only [Act.put, List.setIfInBounds_toArray]
    refine wpAnyH_take (i := 1) (v := .slice (some ⟨blk, off, none⟩) n c) rfl (by kernel_rfl) (by kernel_rfl) (by kernel_rfl) (fun _ _ _ h => h) (Or.inl ⟨by rfl, ?_⟩) hS0 ?_
    · rintro w' ⟨q0, q1, q2⟩
      go_simp
    simp only [Act.put, List.setIfInBounds_toArray]
    refine wpAnyH_take (i := 2) (v := .slice (some ⟨blk, off, none⟩) n c) rfl (by kernel_rfl) (by kernel_rfl) (by kernel_rfl) (fun _ _ _ h => h) (Or.inl ⟨by rfl, ?_⟩) hS0 ?_
    · rintro w' ⟨q0, q1, q2⟩
      go_simp
    simp only [Act.put, List.setIfInBounds_toArray]
    refine wpAnyH_take (i := 3) (v := .int .i64 (v : Int)) rfl (by kernel_rfl) (by kernel_rfl) (by kernel_rfl) (fun _ _ _ h => h) (Or.inl ⟨by rfl, ?_⟩) hS0 ?_
    · rintro w' ⟨q0, q1, q2⟩
      go_simp
    simp only [Act.put, List.setIfInBounds_toArray]
    refine wpAnyH_take (i := 4) (v := .pointer (some ⟨blk, off + v, none⟩)) rfl (by kernel_rfl) (by kernel_rfl) (by kernel_rfl) (fun _ _ _ h => h) (Or.inl ⟨by rfl, ?_⟩) hS0 ?_
    · rintro w' ⟨q0, q1, q2⟩
      go_simp
    simp only [Act.put, List.setIfInBounds_toArray]
    refine wpAnyH_take (i := 5) (v := .int .i64 (X : Nat)) rfl (by kernel_rfl) (by kernel_rfl) (by kernel_rfl) (fun _ _ _ h => h) (Or.inl ⟨by rfl, ?_⟩) hS0 ?_
    · rintro w' ⟨q0, q1, q2⟩
      go_simp
    simp only [Act.put, List.setIfInBounds_toArray]
    refine wpAnyH_rest 6 3 (by rfl) (by kernel_rfl) ?_
    simp only [List.drop_succ_cons, List.drop_zero]
    refine tailH_cons ?_
    go_wp2_with fail
    refine HSW.out.mono ?_
    rintro e w1 ⟨u, rfl, hr1, hb1⟩
    obtain ⟨A1, c1, rfl, s1⟩ := hr1.seen
    rw [HSLN.out]
    have hT1 : Tab w1 := Tab.below (w := Z.drew) HTZ.out hb1 (by have := C0.out.lt; show 2 ≤ Z.heap.size; omega)
    have HLE := Lib.hid (callsIn_wide.1 (implLeast_in A1 c1 (swL L X) HSG.out w1 s1 hT1))
    rw [HSLN.out] at HLE
    have q0 : w1.cell? ⟨n₀, 0, none⟩ = some (.slice (some ⟨blk, off, none⟩) n c) := (hb1.cell (p := ⟨n₀, 0, none⟩) C0.out.lt).trans z0
    have q1 : w1.cell? ⟨p, 0, none⟩ = some (.int .i64 y) := (hb1.cell (p := ⟨p, 0, none⟩) C1.out.lt).trans z1
    have q2 : w1.cell? ⟨blk, off + v, none⟩ = some (.int .i64 X) := (hb1.cell (p := ⟨blk, off + v, none⟩) (by have := C0.out.lt; show blk < Z.heap.size; omega)).trans zX
    have HB1 := Lib.hid hb1
    clear hr1 s1 hT1 hb1
    go_wp2
    refine ⟨⟨q0, q1, q2⟩, ?_⟩
    refine tailH_cons ?_
    go_wp2
    refine ⟨⟨q0, q1, q2⟩, ?_⟩
    refine tailH_cons ?_
    go_wp2_with fail
    refine HLE.out.mono ?_
    rintro e w2 ⟨rfl, hb2⟩
    have hz : Below Z.heap.size Z w2 := (Below.refl _ Z).drew.trans (HB1.out.trans (hb2.mono HB1.out.size))
    have k0 : Boxed w2 n₀ 41 (.slice (some ⟨blk, off, none⟩) n c) := (hz.block n₀ C0.out.lt).trans C0.out
    have k1 : Boxed w2 p 3 (.int .i64 y) := (hz.block p C1.out.lt).trans C1.out
    have k2 : w2.cell? ⟨blk, off + v, none⟩ = some (.int .i64 X) := (hz.cell (p := ⟨blk, off + v, none⟩) (by have := C0.out.lt; show blk < Z.heap.size; omega)).trans zX
    have r0 := k0.cell
    have r1 := k1.cell
    have f1 := k1.frozen
    have K0 := Lib.hid k0
    have K1 := Lib.hid k1
    have HZ := Lib.hid hz
    obtain ⟨x, ex⟩ : ∃ x, x = leastL (swL L X) := ⟨_, rfl⟩
    rw [← ex]
    have EX := Lib.hid ex
    have hlt2 : decide ((x : Int) < (y : Int)) = decide (x < y) := by rw [decide_eq_decide]; omega
    have hnZ : n₀ ≤ Z.heap.size := by have := C0.out.lt; omega
    obtain ⟨m, em⟩ : ∃ m, m = min y x := ⟨_, rfl⟩
    have g1 := grown_set (World.grownBy.refl w2 (some p)) 0 (.int .i64 (m : Nat))
    have hbz : Below n₀ Z (w2.setCell ⟨p, 0, none⟩ (.int .i64 (m : Nat))) := (HZ.out.mono hnZ).setCell (p := ⟨p, 0, none⟩) (by show n₀ ≤ p; omega) _
    have FIN := Lib.hid (show KeepsOthers Z (w2.setCell ⟨p, 0, none⟩ (.int .i64 (m : Nat))) ∧ Below n₀ Z (w2.setCell ⟨p, 0, none⟩ (.int .i64 (m : Nat))) ∧
      (SlJ n₀ p n (.slice (some ⟨blk, off, none⟩) n c) L Q (pre ++ [(⟨v, hvn, hvq⟩ : Nd n Q)]) (w2.setCell ⟨p, 0, none⟩ (.int .i64 (m : Nat))) ∧ Below n₀ w (w2.setCell ⟨p, 0, none⟩ (.int .i64 (m : Nat)))) from
      ⟨(KeepsOthers.of_grownBy (row := none) ⟨HZ.out.os, HZ.out.tape, HZ.out.output, HZ.out.size, fun k hk _ => HZ.out.block k hk⟩ (fun _ _ e => by cases e)).trans (KeepsOthers.setCell _ _ _), hbz,
        ⟨K0.out.kept g1 (fun e => by injection e; omega), by rw [HST.out, ← EX.out, ← em]; exact K1.out.set _⟩, HB.out.trans hbz⟩)
    have EM := Lib.hid em
    clear hz k0 k1 hb2 q0 q1 q2 ex em g1 hbz
    by_cases hxy : x < y
    · have hd : decide ((x : Int) < (y : Int)) = true := by rw [hlt2]; exact decide_eq_true hxy
      have hmx : m = x := by rw [EM.out]; omega
      rw [hmx] at FIN
      clear hlt2
      go_wp2
      refine ⟨⟨r0, r1, k2⟩, ?_⟩
      clear z0 z1 zX hS0
      change wpListIn _ _ _ _ _ _ _ _
      gi_wp2
      exact FIN.out
    · have hd : decide ((x : Int) < (y : Int)) = false := by rw [hlt2]; exact decide_eq_false hxy
      have hmx : m = y := by rw [EM.out]; omega
      rw [hmx] at FIN
      clear hlt2
      go_wp2
      refine ⟨⟨r0, r1, k2⟩, ?_⟩
      clear z0 z1 zX hS0
      change wpListIn _ _ _ _ _ _ _ _
      gi_wp2
      exact FIN.out
  case done =>
    rintro D xs Z hD hS ⟨⟨c0, c1⟩, hB⟩ hK
    have z1 := c1.cell
    have hT3 : valsN xs = List.range n := by
      have e2 : Q = 2 ^ n - 1 := by have := HQ.out; omega
      have e3 := full_comp ⟨n, by omega⟩
      dsimp only at e3
      rw [hS, e2, e3]
    rw [hT3] at z1
    clear hS
    gi_wp2
    refine ⟨by simp, .inl ⟨_, _, rfl, run_takeDeferred hK, ?_⟩⟩
    refine ⟨_, results_tmp rfl _ _ _, ?_⟩
    refine ⟨rfl, ?_⟩
    rw [← EN.out]
    exact hB.trans (belowK_b (w := w) hle Z D _ _ (by have := EN.out; omega) hK rfl rfl)
  case stop =>
    rintro D cd pre W _ _ h _
    exact h.elim
end Go.Proofs.YtamabhdbcmjbjaaDoor
