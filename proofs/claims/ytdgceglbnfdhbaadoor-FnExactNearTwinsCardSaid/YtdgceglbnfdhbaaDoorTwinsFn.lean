/- The program's twins: the set of a node and all of its twins. -/
import Derived.Test.YtdgceglbnfdhbaaDoorTwinMath
import Derived.Test.YtdgceglbnfdhbaaDoorBaseA
import Derived.Test.YtdgceglbnfdhbaaDoorRoundTail
import Derived.Test.YtdgceglbnfdhbaaDoorRoundQuiet
import Derived.Test.YtdgceglbnfdhbaaDoorStillKit
import Derived.Test.YtdgceglbnfdhbaaDoorPermsMath
import Derived.Test.YtdgceglbnfdhbaaDoorNumA
namespace Go.Proofs.YtdgceglbnfdhbaaDoor
open Go.RowKit Go.Shelf
attribute [local go_sem] Oper.semAt_some
set_option linter.unusedVariables false
set_option maxRecDepth 100000

def twinOver (L : List Int) (v : Nat) (ps : List Nat) : Nat := ps.foldl (fun s w => if twB L v w = true then s ||| 2 ^ w else s) 0
theorem twinOver_snoc (L : List Int) (v : Nat) (ps : List Nat) (y : Nat) : twinOver L v (ps ++ [y]) = if twB L v y = true then twinOver L v ps ||| 2 ^ y else twinOver L v ps := by simp [twinOver]
theorem twinOver_lt (L : List Int) (v n : Nat) (ps : List Nat) (h : ∀ x ∈ ps, x < n) : twinOver L v ps < 2 ^ n := by
  induction ps using snoc_ind with
  | h0 => exact two_pos n
  | h1 l x ih =>
    have ih := ih fun y hy => h y (by simp [hy])
    rw [twinOver_snoc]
    split
    · exact Nat.or_lt_two_pow ih (Nat.pow_lt_pow_right (by omega) (h x (by simp)))
    · exact ih
theorem nd_lt {n Q : Nat} (pre : List (Nd n Q)) : ∀ x ∈ valsN pre, x < n := fun x hx => by
  obtain ⟨y, _, rfl⟩ := List.mem_map.1 hx
  exact y.2.1
/-- What the operations yield at two nodes: their pair's set, and both rows without it. -/
theorem twin_step {L : List Int} (hg : IsGraph L) {v y : Nat} (hv : v < L.length) (hy : y < L.length) : ∃ a b p q u x z : Nat, L[v]?.getD 0 = (a : Int) ∧ L[y]?.getD 0 = (b : Int) ∧
    (wrap64 ((2 : Int) ^ v) = (p : Int) ∧ IntKind.i64.wrap ((2 : Int) ^ v) = (p : Int)) ∧ (wrap64 ((2 : Int) ^ y) = (q : Int) ∧ IntKind.i64.wrap ((2 : Int) ^ y) = (q : Int)) ∧
    bits .or .i64 (p : Int) (q : Int) = (u : Int) ∧ bits .andNot .i64 (a : Int) (u : Int) = (x : Int) ∧ bits .andNot .i64 (b : Int) (u : Int) = (z : Int) ∧ ((x : Int) == (z : Int)) = twB L v y ∧ q = 2 ^ y ∧ q < 64 := by
  have h6 := hg.2.1
  have ea := ent_int (hg.2.2 v hv).1
  have eb := ent_int (hg.2.2 y hy).1
  have la := ent_small hg v
  have lb := ent_small hg y
  have w1 := wrap_pow v (by omega)
  have w2 := wrap_pow y (by omega)
  have k1 : IntKind.i64.wrap ((2 : Int) ^ v) = ((2 ^ v : Nat) : Int) := by rw [← w1, IntKind.wrap_i64]; unfold wrap64; rfl
  have k2 : IntKind.i64.wrap ((2 : Int) ^ y) = ((2 ^ y : Nat) : Int) := by rw [← w2, IntKind.wrap_i64]; unfold wrap64; rfl
  have p64 : 2 ^ v < 64 := Nat.pow_lt_pow_right (n := 6) (by omega) (by omega)
  have q64 : 2 ^ y < 64 := Nat.pow_lt_pow_right (n := 6) (by omega) (by omega)
  have u64 := pair_small (v := v) (w := y) (by omega) (by omega)
  refine ⟨ent L v, ent L y, 2 ^ v, 2 ^ y, 2 ^ v ||| 2 ^ y, less (ent L v) (2 ^ v ||| 2 ^ y), less (ent L y) (2 ^ v ||| 2 ^ y), ea, eb, ⟨w1, k1⟩, ⟨w2, k2⟩,
    i64_or_nat _ _ (Nat.lt_trans p64 (by decide)) (Nat.lt_trans q64 (by decide)), less_op _ _ (Nat.lt_trans la (by decide)) (Nat.lt_trans u64 (by decide)), less_op _ _ (Nat.lt_trans lb (by decide)) (Nat.lt_trans u64 (by decide)), ?_, rfl, q64⟩
  unfold twB
  rw [Bool.eq_iff_iff, beq_iff_eq, beq_iff_eq]
  exact Int.ofNat_inj

def TwI (n₀ n v : Nat) (S : Value) (L : List Int) (Q : Nat) (pre : List (Nd n Q)) (W : World) : Prop :=
  Boxed W n₀ 44 S ∧ Boxed W (n₀ + 1) 3 (.int .i64 v) ∧ Boxed W (n₀ + 1 + 1) 3 (.int .i64 (twinOver L v (valsN pre) : Nat))
theorem twI_own (n₀ n v : Nat) (S : Value) (L : List Int) (Q : Nat) : Own (TwI n₀ n v S L Q) := fun s X Y row hs hg hr =>
  ⟨boxed_own _ _ (fun _ : Unit => _) () X Y row hs.1 hg hr, boxed_own _ _ (fun _ : Unit => _) () X Y row hs.2.1 hg hr, boxed_own _ _ (fun _ : Unit => _) () X Y row hs.2.2 hg hr⟩

set_option maxHeartbeats 4000000 in
theorem twins_in (A : Option Addr) (c v : Nat) (L : List Int) (hL : IsGraph L) (hv : v < L.length) (w : World) (h : Seen w A L) (hT : Tab w) :
    CallsIn Fence.wide 6 Tryd.prog 59 #[.slice A L.length c, .int .i64 v] w (NumA w (twinL L v)) := by
  have h1 := hL.1
  have h6 := hL.2.1
  obtain ⟨blk, off, hA0, hbl0, _⟩ := h 0 (by omega)
  obtain ⟨n, hn⟩ : ∃ n, n = L.length := ⟨_, rfl⟩
  have hp := two_pos n
  obtain ⟨Q, hQ⟩ : ∃ Q, Q + 1 = 2 ^ n := ⟨2 ^ n - 1, by omega⟩
  have htw : twinL L v = twinOver L v (List.range n) := by rw [hn]; rfl
  rw [htw]
  rw [← hn] at h1 h6 hv ⊢
  subst hA0
  have HL := Lib.hid hL
  have HN := Lib.hid hn
  have H := Lib.hid h
  have HQ := Lib.hid hQ
  have TB := Lib.hid hT
  obtain ⟨n₀, en⟩ : ∃ n₀, n₀ = w.heap.size := ⟨_, rfl⟩
  have EN := Lib.hid en
  have h2 : 2 ≤ n₀ := by rw [en]; exact hT.lt
  have z0 : (((w.alloc (.cells #[.slice (some ⟨blk, off, none⟩) n c] 44)).alloc (.cells #[.int .i64 v] 3)).alloc (.cells #[.int .i64 0] 3)).cell? ⟨w.heap.size, 0, none⟩ = some (.slice (some ⟨blk, off, none⟩) n c) := (((Boxed.new w _ _).alloc _).alloc _).cell
  obtain ⟨W, eW⟩ : ∃ W, W = (((w.alloc (.cells #[.slice (some ⟨blk, off, none⟩) n c] 44)).alloc (.cells #[.int .i64 v] 3)).alloc (.cells #[.int .i64 0] 3)).alloc (.cells #[.int .i64 (Q : Nat)] 3) := ⟨_, rfl⟩
  have sW : W.heap.size = n₀ + 1 + 1 + 1 + 1 := by rw [eW, en]; simp
  have hBW : Below n₀ w W := by
    rw [eW, en]
    refine Below.alloc (Below.alloc (Below.alloc (Below.alloc (Below.refl _ w) (Nat.le_refl _) _) ?_ _) ?_ _) ?_ _ <;> (simp <;> omega)
  have b0 : Boxed W n₀ 44 (.slice (some ⟨blk, off, none⟩) n c) := by rw [eW, en]; exact (((Boxed.new w _ _).alloc _).alloc _).alloc _
  have b1 : Boxed W (n₀ + 1) 3 (.int .i64 v) := by
    rw [eW, en]; have h := Boxed.new (w.alloc (.cells #[.slice (some ⟨blk, off, none⟩) n c] 44)) 3 (.int .i64 v); rw [World.size_alloc] at h; exact (h.alloc _).alloc _
  have b2 : Boxed W (n₀ + 1 + 1) 3 (.int .i64 (twinOver L v [] : Nat)) := by
    rw [eW, en]; have h := Boxed.new ((w.alloc (.cells #[.slice (some ⟨blk, off, none⟩) n c] 44)).alloc (.cells #[.int .i64 v] 3)) 3 (.int .i64 0); rw [World.size_alloc, World.size_alloc] at h; exact h.alloc _
  have b3 : W.cell? ⟨n₀ + 1 + 1 + 1, 0, none⟩ = some (.int .i64 (Q : Nat)) := by
    rw [eW, en]; have h := Boxed.new (((w.alloc (.cells #[.slice (some ⟨blk, off, none⟩) n c] 44)).alloc (.cells #[.int .i64 v] 3)).alloc (.cells #[.int .i64 0] 3)) 3 (.int .i64 (Q : Nat)); rw [World.size_alloc, World.size_alloc, World.size_alloc] at h; exact h.cell
  have EW := Lib.hid eW
  have hT1 : Tab W := TB.out.below hBW h2
  clear eW hL hn hQ hT hp htw h en
  refine callsIn_of_wp_marks Tryd.func59 rfl trivial ?_ rfl
  simp only [Tryd.ntmps59, List.size_toArray, List.length_cons, List.length_nil, Nat.reduceAdd, Nat.reduceSub, Array.replicate_succ, Array.replicate_zero, List.push_toArray, List.append_toArray, List.nil_append, List.cons_append]
  gi_wp2_with (refine ⟨trivial, ?_⟩; gi_at_call 52; refine (callsIn_wide.2 (nodes_any _ n c Q h6 HQ.out _)).mono ?_; rintro e w' ⟨rfl, rfl⟩)
  rw [← EW.out, ← EN.out]
  have hle : n₀ ≤ w.heap.size := by rw [EN.out]; exact Nat.le_refl _
  have hQ2 : Q < 2 ^ n := by have := HQ.out; omega
  clear z0
  refine wpIn_rangeFunc_ownF (α := Nd n Q) rfl (by omega) (gf := 70) (lb := #[.pointer (some ⟨n₀ + 1 + 1 + 1, 0, none⟩)]) rfl trivial (enters_of Tryd.func70 (by kernel_rfl) rfl)
    (nodes_stops _ (n₀ + 1 + 1 + 1) n Q n₀ (by omega) h6 hQ2 W (by omega) b3 hT1 h2 (by omega)) belowK_t (belowK_b (by omega)) (Below.refl _ _) (fun _ => rfl)
    (fun pre Z => TwI n₀ n v (.slice (some ⟨blk, off, none⟩) n c) L Q pre Z ∧ Below n₀ w Z) (fun _ _ _ => False)
    (OwnFrom.and (Own.from (twI_own _ _ _ _ _ _) _) (ownFrom_below hle (by omega))) (fun _ _ _ _ _ hs _ _ => hs)
    ⟨⟨b0, b1, b2⟩, hBW⟩
    (fun x => { tmps := #[.slice (some ⟨blk, off, none⟩) n c, .int .i64 v, .pointer (some ⟨n₀, 0, none⟩), .pointer (some ⟨n₀ + 1, 0, none⟩), .int .i64 0, .pointer (some ⟨n₀ + 1 + 1, 0, none⟩), .int .i64 (x.1 : Int), undef, .slice (some ⟨blk, off, none⟩) n c,
      .func (.func 70) #[] #[.pointer (some ⟨n₀ + 1 + 1 + 1, 0, none⟩)], .int .i64 (x.1 : Int), undef, undef, undef, undef, undef, undef, undef, undef, undef, undef, undef, undef, undef, undef, undef, undef, undef, undef, undef, undef, undef, undef, undef], defers := [] }) ?assign ?body ?done ?stop
  case assign =>
    intro l x W K hK
    gi_wp2
    exact hK
  case body =>
    rintro l pre x Wr ⟨⟨c0, c1, c2⟩, hB⟩ hlen
    obtain ⟨y, hyn, hyq⟩ := x
    dsimp only at hyn ⊢
    obtain ⟨a, b, p, q, u, x, z, ea, eb, ⟨wp1, wp2⟩, ⟨wq1, wq2⟩, ou, ox, oz, htb, eq, hq64⟩ := twin_step HL.out (v := v) (y := y) (by rw [← HN.out]; exact hv) (by rw [← HN.out]; exact hyn)
    have hst : twinOver L v (valsN (pre ++ [(⟨y, hyn, hyq⟩ : Nd n Q)])) = if twB L v y = true then twinOver L v (valsN pre) ||| q else twinOver L v (valsN pre) := by rw [valsN_snoc, twinOver_snoc, eq]
    have hsl := twinOver_lt L v n (valsN pre) (nd_lt pre)
    have h64 := two_le h6
    obtain ⟨s, es⟩ : ∃ s, s = twinOver L v (valsN pre) := ⟨_, rfl⟩
    rw [← es] at hst hsl c2
    obtain ⟨tb, etb⟩ : ∃ tb, tb = twB L v y := ⟨_, rfl⟩
    rw [← etb] at hst htb
    have os := i64_or_nat s q (Nat.lt_of_lt_of_le hsl (Nat.le_trans h64 (by decide))) (Nat.lt_trans hq64 (by decide))
    obtain ⟨blk1, off1, hA1, hbl1, hc1⟩ := H.out v (by rw [← HN.out]; exact hv)
    have e1 : blk = blk1 ∧ off = off1 := by injection hA1 with e; injection e with e1 e2; exact ⟨e1, e2⟩
    obtain ⟨rfl, rfl⟩ := e1
    obtain ⟨blk2, off2, hA2, hbl2, hc2⟩ := H.out y (by rw [← HN.out]; exact hyn)
    have e2 : blk = blk2 ∧ off = off2 := by injection hA2 with e; injection e with e1 e2; exact ⟨e1, e2⟩
    obtain ⟨rfl, rfl⟩ := e2
    rw [ea] at hc1
    rw [eb] at hc2
    have hbn : blk < n₀ := by rw [EN.out]; exact hbl0
    have rv : Wr.cell? ⟨blk, off + v, none⟩ = some (.int .i64 a) := (hB.cell (p := ⟨blk, off + v, none⟩) hbn).trans hc1
    have ry : Wr.cell? ⟨blk, off + y, none⟩ = some (.int .i64 b) := (hB.cell (p := ⟨blk, off + y, none⟩) hbn).trans hc2
    have hi1 : (0 : Int) ≤ (v : Int) ∧ (v : Int) < (n : Int) := by omega
    have hi2 : (0 : Int) ≤ (y : Int) ∧ (y : Int) < (n : Int) := by omega
    have hv64 : v < 64 := by omega
    have hy64 : y < 64 := by omega
    have z0 := c0.cell
    have z1 := c1.cell
    have z2 := c2.cell
    have f2 := c2.frozen
    have C0 := Lib.hid c0
    have C1 := Lib.hid c1
    have C2 := Lib.hid c2
    have HST := Lib.hid hst
    have HB := Lib.hid hB
    have hmx : Tryd.prog.follows .mixedOrders = true := by kernel_rfl
    clear c0 c1 c2 hst es etb hA1 hA2 hc1 hc2 hbl1 hbl2 ea eb eq hsl h64 hq64 hB
    obtain ⟨w2, ew2⟩ : ∃ w2, w2 = Wr.drew := ⟨_, rfl⟩
    have EW2 := Lib.hid ew2
    have rv2 : w2.cell? ⟨blk, off + v, none⟩ = some (.int .i64 a) := by rw [ew2]; exact rv
    have ry2 : w2.cell? ⟨blk, off + y, none⟩ = some (.int .i64 b) := by rw [ew2]; exact ry
    have z02 : w2.cell? ⟨n₀, 0, none⟩ = some (.slice (some ⟨blk, off, none⟩) n c) := by rw [ew2]; exact z0
    have z12 : w2.cell? ⟨n₀ + 1, 0, none⟩ = some (.int .i64 v) := by rw [ew2]; exact z1
    have z22 : w2.cell? ⟨n₀ + 1 + 1, 0, none⟩ = some (.int .i64 s) := by rw [ew2]; exact z2
    have f22 : w2.frozen? ⟨n₀ + 1 + 1, 0, none⟩ = false := by rw [ew2]; exact f2
    obtain ⟨w3, ew3⟩ : ∃ w3, w3 = w2.drew := ⟨_, rfl⟩
    have EW3 := Lib.hid ew3
    have z23 : w3.cell? ⟨n₀ + 1 + 1, 0, none⟩ = some (.int .i64 s) := by rw [ew3]; exact z22
    have f23 : w3.frozen? ⟨n₀ + 1 + 1, 0, none⟩ = false := by rw [ew3]; exact f22
    obtain ⟨w4, ew4⟩ : ∃ w4, w4 = w3.drew := ⟨_, rfl⟩
    have EW4 := Lib.hid ew4
    have z24 : w4.cell? ⟨n₀ + 1 + 1, 0, none⟩ = some (.int .i64 s) := by rw [ew4]; exact z23
    have f24 : w4.frozen? ⟨n₀ + 1 + 1, 0, none⟩ = false := by rw [ew4]; exact f23
    clear ew2 ew3 ew4
    gi_wp2
    refine wpIn_tail_round 5 (by kernel_rfl) (by kernel_rfl) (by kernel_rfl) ?_
    simp only [List.take_succ_cons, List.take_zero, List.drop_succ_cons, List.drop_zero]
    repeat still_step
    refine wpStill_nil ?_
    rw [← EW2.out]
    gi_wp2
    refine wpIn_tail_round 12 (by kernel_rfl) (by kernel_rfl) (by kernel_rfl) ?_
    simp only [List.take_succ_cons, List.take_zero, List.drop_succ_cons, List.drop_zero]
    repeat still_step
    refine wpStill_nil ?_
    rw [← EW3.out]
    cases tb
    · gi_wp2
      rw [EW3.out, EW2.out]
      exact ⟨(KeepsOthers.drew _).trans (KeepsOthers.drew _), (Below.refl _ _).drew.drew, ⟨C0.out, C1.out, by rw [HST.out, if_neg (by decide)]; exact C2.out⟩, HB.out.drew.drew⟩
    · gi_wp2
      refine wpIn_tail_round 4 (by kernel_rfl) (by kernel_rfl) (by kernel_rfl) ?_
      simp only [List.take_succ_cons, List.take_zero, List.drop_succ_cons, List.drop_zero]
      repeat still_step
      refine wpStill_nil ?_
      rw [← EW4.out]
      gi_wp2
      rw [EW4.out, EW3.out, EW2.out]
      have gk := grown_set (grown_drew (grown_drew (grown_drew (World.grownBy.refl Wr (some (n₀ + 1 + 1)))))) 0 (.int .i64 ((s ||| q : Nat) : Int))
      refine ⟨(((KeepsOthers.drew _).trans (KeepsOthers.drew _)).trans (KeepsOthers.drew _)).trans (KeepsOthers.setCell _ _ _), (Below.refl n₀ Wr).grown gk (by have := HB.out.size; omega) (fun k e => by injection e; omega), ⟨C0.out.kept gk (fun e => by injection e; omega), C1.out.kept gk (fun e => by injection e; omega), ?_⟩, HB.out.grown gk (by have := HB.out.size; omega) (fun k e => by injection e; omega)⟩
      rw [HST.out, if_pos (by trivial)]
      exact (show Boxed Wr.drew.drew.drew (n₀ + 1 + 1) 3 (.int .i64 (s : Nat)) from C2.out).set _
  case done =>
    rintro D xs Z hD hS ⟨⟨c0, c1, c2⟩, hB⟩ hK
    have z2 := c2.cell
    have HS := Lib.hid hS
    clear hS
    gi_wp2
    refine ⟨by simp, .inl ⟨_, _, rfl, run_takeDeferred hK, ?_⟩⟩
    refine ⟨_, results_tmp rfl _ _ _, ?_⟩
    have e2 : Q = 2 ^ n - 1 := by have := HQ.out; omega
    have e3 := full_comp ⟨n, by omega⟩
    dsimp only at e3
    have hv2 : valsN xs = List.range n := by rw [HS.out, e2, e3]
    refine ⟨by rw [hv2]; rfl, ?_⟩
    rw [← EN.out]
    exact hB.trans (belowK_b (w := w) hle Z D _ _ (by have := EN.out; omega) hK rfl rfl)
  case stop =>
    rintro D cd pre W _ _ h _
    exact h.elim
end Go.Proofs.YtdgceglbnfdhbaaDoor
