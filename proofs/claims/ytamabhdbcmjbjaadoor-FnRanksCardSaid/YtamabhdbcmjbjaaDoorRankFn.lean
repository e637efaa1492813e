/- The program's rank of all edges, and of a set of edges. -/
import Derived.Test.YtamabhdbcmjbjaaDoorRankMath
import Derived.Test.YtamabhdbcmjbjaaDoorReachIn
import Derived.Test.YtamabhdbcmjbjaaDoorBaseA
import Derived.Test.YtamabhdbcmjbjaaDoorGraphOfIn
namespace Go.Proofs.YtamabhdbcmjbjaaDoor
open Go.RowKit Go.Shelf
attribute [local go_sem] Oper.semAt_some
set_option linter.unusedVariables false
set_option maxRecDepth 100000

theorem all_nodes : ∀ n : Fin 7, nodesL (2 ^ n.val - 1) = List.range n.val := by decide
theorem reachN_lt {L : List Int} (hg : IsGraph L) {v : Nat} (hv : v < L.length) : reachN L (2 ^ v) < 2 ^ L.length :=
  reaches_lt (Nat.pow_lt_pow_right (by omega) hv) (fun u hu => ent_lt (hg.2.2 u hu).1) _
theorem rankRun_small {L : List Int} (hg : IsGraph L) (vs : List Nat) (hv : ∀ v ∈ vs, v < L.length) : (rankRun L vs).1 ≤ vs.length ∧ (rankRun L vs).2 < 2 ^ L.length := by
  induction vs using snoc_ind with
  | h0 => exact ⟨Nat.le_refl _, two_pos _⟩
  | h1 l x ih =>
    have ih' := ih fun v hm => hv v (by simp [hm])
    rw [rankRun_snoc, List.length_append, List.length_singleton]
    refine ⟨?_, ?_⟩
    · show (if (rankRun L l).2 / 2 ^ x % 2 = 1 then (rankRun L l).1 + 1 else (rankRun L l).1) ≤ l.length + 1
      split <;> omega
    · exact Nat.or_lt_two_pow ih'.2 (reachN_lt hg (hv x (by simp)))

def RkI (n₀ n Q : Nat) (S : Value) (L : List Int) (pre : List (Nd n Q)) (W : World) : Prop :=
  Boxed W n₀ 41 S ∧ Boxed W (n₀ + 1) 3 (.int .i64 ((rankRun L (valsN pre)).1 : Nat)) ∧ Boxed W (n₀ + 1 + 1) 3 (.int .i64 ((rankRun L (valsN pre)).2 : Nat))
theorem rkI_own (n₀ n Q : Nat) (S : Value) (L : List Int) : Own (RkI n₀ n Q S L) := fun s X Y row hs hg hr =>
  ⟨boxed_own _ _ (fun _ : Unit => _) () X Y row hs.1 hg hr, boxed_own _ _ (fun _ : Unit => _) () X Y row hs.2.1 hg hr, boxed_own _ _ (fun _ : Unit => _) () X Y row hs.2.2 hg hr⟩

set_option maxHeartbeats 4000000 in
theorem rank_in (A : Option Addr) (c : Nat) (L : List Int) (hg : IsGraph L) (w : World) (h : Seen w A L) (hT : Tab w) :
    CallsIn Fence.wide 12 Tryd.prog 65 #[.slice A L.length c] w fun e w' => e = .returned (.int .i64 (rankP L : Nat)) ∧ Below w.heap.size w w' := by
  have h1 := hg.1
  have h6 := hg.2.1
  obtain ⟨n, hn⟩ : ∃ n, n = L.length := ⟨_, rfl⟩
  have hp := two_pos n
  obtain ⟨Q, hQ⟩ : ∃ Q, Q + 1 = 2 ^ n := ⟨2 ^ n - 1, by omega⟩
  rw [← hn] at h1 h6 ⊢
  have HN := Lib.hid hn
  have H := Lib.hid h
  have HG := Lib.hid hg
  have HQ := Lib.hid hQ
  have TB := Lib.hid hT
  clear h hg hn hQ hT hp
  refine callsIn_of_wp_marks Tryd.func65 rfl trivial ?_ rfl
  simp only [Tryd.ntmps65, List.size_toArray, List.length_cons, List.length_nil, Nat.reduceAdd, Nat.reduceSub, Array.replicate_succ, Array.replicate_zero, List.push_toArray, List.append_toArray, List.nil_append, List.cons_append]
  gi_wp2_with (refine ⟨trivial, ?_⟩; gi_at_call 52; refine (callsIn_wide.2 (nodes_any _ n c Q h6 HQ.out _)).mono ?_; rintro e w' ⟨rfl, rfl⟩)
  obtain ⟨W, eW⟩ : ∃ W, W = (((w.alloc (.cells #[.slice A n c] 41)).alloc (.cells #[.int .i64 0] 3)).alloc (.cells #[.int .i64 0] 3)).alloc (.cells #[.int .i64 (Q : Nat)] 3) := ⟨_, rfl⟩
  have sW : W.heap.size = w.heap.size + 1 + 1 + 1 + 1 := by rw [eW]; simp
  have hBW : Below w.heap.size w W := by rw [eW]; exact ((((Below.refl _ w).alloc (Nat.le_refl _) _).alloc (by simp) _).alloc (by simp; omega) _).alloc (by simp; omega) _
  have b0 : Boxed W w.heap.size 41 (.slice A n c) := by rw [eW]; exact (((Boxed.new w _ _).alloc _).alloc _).alloc _
  have b1 : Boxed W (w.heap.size + 1) 3 (.int .i64 0) := by
    rw [eW]; have h := Boxed.new (w.alloc (.cells #[.slice A n c] 41)) 3 (.int .i64 0); rw [World.size_alloc] at h; exact (h.alloc _).alloc _
  have b2 : Boxed W (w.heap.size + 1 + 1) 3 (.int .i64 0) := by
    rw [eW]; have h := Boxed.new ((w.alloc (.cells #[.slice A n c] 41)).alloc (.cells #[.int .i64 0] 3)) 3 (.int .i64 0); rw [World.size_alloc, World.size_alloc] at h; exact h.alloc _
  have b4 : W.cell? ⟨w.heap.size + 1 + 1 + 1, 0, none⟩ = some (.int .i64 (Q : Nat)) := by
    rw [eW]; have h := Boxed.new (((w.alloc (.cells #[.slice A n c] 41)).alloc (.cells #[.int .i64 0] 3)).alloc (.cells #[.int .i64 0] 3)) 3 (.int .i64 (Q : Nat)); rw [World.size_alloc, World.size_alloc, World.size_alloc] at h; exact h.cell
  rw [← eW]
  clear eW
  obtain ⟨n₀, en⟩ : ∃ n₀, n₀ = w.heap.size := ⟨_, rfl⟩
  have h2 : 2 ≤ n₀ := by have := TB.out.lt; omega
  rw [← en] at sW hBW b0 b1 b2 b4 ⊢
  have EN := Lib.hid en
  have SW := Lib.hid sW
  have hle : n₀ ≤ w.heap.size := by omega
  have hleW : n₀ + 1 + 1 + 1 < W.heap.size := by omega
  clear en sW
  have hQ2 : Q < 2 ^ n := by have := HQ.out; omega
  have hT1 : Tab W := TB.out.below hBW h2
  refine wpIn_rangeFunc_ownF (α := Nd n Q) rfl (by omega) (gf := 76) (lb := #[.pointer (some ⟨n₀ + 1 + 1 + 1, 0, none⟩)]) rfl trivial (enters_of Tryd.func76 (by kernel_rfl) rfl)
    (nodes_stops _ (n₀ + 1 + 1 + 1) n Q n₀ (by omega) h6 hQ2 W hleW b4 hT1 h2 (by omega)) belowK_t (belowK_b (by omega)) (Below.refl _ _) (fun _ => rfl)
    (fun pre W => RkI n₀ n Q (.slice A n c) L pre W ∧ Below n₀ w W) (fun _ _ _ => False)
    (OwnFrom.and (Own.from (rkI_own _ _ _ _ _) _) (ownFrom_below hle (by omega))) (fun _ _ _ _ _ hs _ _ => hs)
    ⟨⟨b0, b1, b2⟩, hBW⟩
    (fun x => { tmps := #[.slice A n c, .pointer (some ⟨n₀, 0, none⟩), .int .i64 0, .pointer (some ⟨n₀ + 1, 0, none⟩), .pointer (some ⟨n₀ + 1 + 1, 0, none⟩), .int .i64 (x.1 : Int), .slice A n c,
      .func (.func 76) #[] #[.pointer (some ⟨n₀ + 1 + 1 + 1, 0, none⟩)], .int .i64 (x.1 : Int), undef, undef, undef, undef, undef, undef, undef, undef, undef, undef, undef, undef, undef, undef], defers := [] }) ?assign ?body ?done ?stop
  case assign =>
    intro l x W K hK
    gi_wp2
    exact hK
  case body =>
    rintro l pre x Z ⟨⟨c0, c1, c2⟩, hB⟩ hlen
    obtain ⟨v, hvn, hvq⟩ := x
    dsimp only at hvn ⊢
    have hvL : v < L.length := by have := HN.out; omega
    have hsm := rankRun_small HG.out (valsN pre) (fun u hu => by
      simp only [valsN, List.mem_map] at hu
      obtain ⟨q, _, rfl⟩ := hu
      have := q.2.1
      have := HN.out
      omega)
    have hst : rankRun L (valsN (pre ++ [(⟨v, hvn, hvq⟩ : Nd n Q)])) = rankStep L (rankRun L (valsN pre)) v := by rw [valsN_snoc, rankRun_snoc]
    obtain ⟨pr, epr⟩ : ∃ pr, pr = pre ++ [(⟨v, hvn, hvq⟩ : Nd n Q)] := ⟨_, rfl⟩
    rw [← epr] at hst ⊢
    clear epr
    have hrl := reachN_lt HG.out hvL
    have hb0 : (2 ^ v).testBit v = true := by simp
    have hs0 : 2 ^ v < 2 ^ L.length := Nat.pow_lt_pow_right (by omega) hvL
    have hplen : pre.length ≤ 6 := by
      have h4 := hlen
      omega
    rw [valsN_length] at hsm
    obtain ⟨P, Q', hP, _, hP64, p1, p2, _⟩ := shl_facts v (by omega)
    have HR : Hid (∀ w1 : World, Below n₀ w w1 → Calls Tryd.prog 79 #[.slice A n c, .int .i64 (P : Nat)] w1 fun e w' => e = .returned (.int .i64 (reachN L P : Nat)) ∧ Below w1.heap.size w1 w') := Lib.hid (by
      intro w1 hb1
      rw [HN.out, hP]
      exact callsIn_wide.1 (implReachedS_in A c L HG.out (2 ^ v) v hvL hb0 hs0 w1 (H.out.below (by rw [← EN.out]; exact hb1)) (TB.out.below hb1 (by omega))))
    unfold rankStep at hst
    rw [← hP] at hst hrl
    obtain ⟨R, eR⟩ : ∃ R, R = reachN L P := ⟨_, rfl⟩
    rw [← eR] at HR hst hrl
    have h64 := two_le h6
    rw [← HN.out] at hrl hsm
    obtain ⟨k, ek⟩ : ∃ k, k = (rankRun L (valsN pre)).1 := ⟨_, rfl⟩
    obtain ⟨s, es⟩ : ∃ s, s = (rankRun L (valsN pre)).2 := ⟨_, rfl⟩
    rw [← ek] at hsm hst c1
    rw [← es] at hsm hst c2
    obtain ⟨bit, ebit, hbit, f1⟩ := and_facts s v (by omega)
    have f2 := i64_or_nat s R (by omega) (by omega)
    obtain ⟨t, et⟩ : ∃ t, t = s ||| R := ⟨_, rfl⟩
    rw [← et] at f2 hst
    rw [← hP] at ebit
    rw [← ebit] at hst
    have hk6 : k ≤ 6 := by omega
    have C0 := Lib.hid c0
    have C1 := Lib.hid c1
    have C2 := Lib.hid c2
    have HB := Lib.hid hB
    have HST := Lib.hid hst
    have z0 := c0.cell
    have z1 := c1.cell
    have z2 := c2.cell
    have y1 := c1.frozen
    have HPP := Lib.hid hP
    clear c0 c1 c2 hB hst hsm hrl eR ek es et ebit hb0 hs0 hvL hlen hplen hP h64
    have hbb : bit = 0 ∨ bit = 1 := by omega
    refine Or.elim hbb (fun hb => ?b0) (fun hb => ?b1)
    case' b0 =>
      subst hb
      gi_wp2
      obtain ⟨Y, eY⟩ : ∃ Y, Y = Z := ⟨_, rfl⟩
      have d0 : Boxed Y n₀ 41 (.slice A n c) := by rw [eY]; exact C0.out
      have d1 : Boxed Y (n₀ + 1) 3 (.int .i64 ((rankRun L (valsN pr)).1 : Nat)) := by rw [eY, HST.out]; exact C1.out
      have d2 : Boxed Y (n₀ + 1 + 1) 3 (.int .i64 s) := by rw [eY]; exact C2.out
      have d3 : Below n₀ Z Y := by rw [eY]; exact Below.refl _ _
      have d4 : KeepsOthers Z Y := by rw [eY]; exact KeepsOthers.refl _
      rw [← eY]
    case' b1 =>
      subst hb
      gi_wp2
      obtain ⟨Y, eY⟩ : ∃ Y, Y = Z.setCell ⟨n₀ + 1, 0, none⟩ (.int .i64 ((k : Int) + 1)) := ⟨_, rfl⟩
      have d0 : Boxed Y n₀ 41 (.slice A n c) := by rw [eY]; exact C0.out.other (by omega) _
      have d1 : Boxed Y (n₀ + 1) 3 (.int .i64 ((rankRun L (valsN pr)).1 : Nat)) := by rw [eY, HST.out]; exact C1.out.set _
      have d2 : Boxed Y (n₀ + 1 + 1) 3 (.int .i64 s) := by rw [eY]; exact C2.out.other (by omega) _
      have d3 : Below n₀ Z Y := by rw [eY]; exact (Below.refl n₀ Z).setCell (p := ⟨n₀ + 1, 0, none⟩) (by show n₀ ≤ n₀ + 1; omega) _
      have d4 : KeepsOthers Z Y := by rw [eY]; exact KeepsOthers.setCell _ _ _
      rw [← eY]
    all_goals
      have hZY : Z.heap.size = Y.heap.size := by rw [eY]; try simp
      have x0 : Y.drew.cell? ⟨n₀, 0, none⟩ = some (.slice A n c) := d0.cell
      have x2 : Y.drew.cell? ⟨n₀ + 1 + 1, 0, none⟩ = some (.int .i64 s) := d2.cell
      have hS0 : Y.drew.cell? ⟨n₀, 0, none⟩ = some (.slice A n c) ∧ Y.drew.cell? ⟨n₀ + 1 + 1, 0, none⟩ = some (.int .i64 s) := ⟨x0, x2⟩
      have D0 := Lib.hid d0
      have D1 := Lib.hid d1
      have D2 := Lib.hid d2
      have D3 := Lib.hid d3
      have D4 := Lib.hid d4
      have HZY := Lib.hid hZY
      clear eY d0 d1 d2 d3 d4 z0 z1 z2 y1 C0 C1 C2 hZY
      refine wpIn_held_round 5 (fun W' => W'.cell? ⟨n₀, 0, none⟩ = some (.slice A n c) ∧ W'.cell? ⟨n₀ + 1 + 1, 0, none⟩ = some (.int .i64 s)) (by kernel_rfl) (by rfl) (by kernel_rfl) (by kernel_rfl) (by kernel_rfl) (by kernel_rfl) ?_
      simp only [List.take_succ_cons, List.take_zero, List.drop_succ_cons, List.drop_zero]
      refine wpAnyH_take (i := 0) (v := .int .i64 s) rfl (by kernel_rfl) (by kernel_rfl) (by kernel_rfl) (fun _ _ _ h => h) (Or.inl ⟨by rfl, ?_⟩) hS0 ?_
      · rintro w' ⟨q0, q1⟩
        go_simp
      simp only [Act.put, List.setIfInBounds_toArray]
      refine wpAnyH_take (i := 1) (v := .slice A n c) rfl (by kernel_rfl) (by kernel_rfl) (by kernel_rfl) (fun _ _ _ h => h) (Or.inl ⟨by rfl, ?_⟩) hS0 ?_
      · rintro w' ⟨q0, q1⟩
        go_simp
      simp only [Act.put, List.setIfInBounds_toArray]
      refine wpAnyH_take (i := 2) (v := .int .i64 (v : Int)) rfl (by kernel_rfl) (by kernel_rfl) (by kernel_rfl) (fun _ _ _ h => h) (Or.inl ⟨by rfl, ?_⟩) hS0 ?_
      · rintro w' ⟨q0, q1⟩
        go_simp
      simp only [Act.put, List.setIfInBounds_toArray]
      refine wpAnyH_take (i := 3) (v := .int .i64 (P : Int)) rfl (by kernel_rfl) (by kernel_rfl) (by kernel_rfl) (fun _ _ _ h => h) (Or.inl ⟨by rfl, ?_⟩) hS0 ?_
      · rintro w' ⟨q0, q1⟩
        go_simp
      simp only [Act.put, List.setIfInBounds_toArray]
      refine wpAnyH_rest 4 1 (by rfl) (by kernel_rfl) ?_
      simp only [List.drop_succ_cons, List.drop_zero]
      refine tailH_cons ?_
      go_wp2_with fail
      refine (HR.out _ (HB.out.trans D3.out).drew).mono ?_
      rintro e w1 ⟨rfl, hb1⟩
      have hz : Below Y.heap.size Y w1 := (Below.refl _ Y).drew.trans hb1
      have q0 : w1.cell? ⟨n₀, 0, none⟩ = some (.slice A n c) := (hb1.cell (p := ⟨n₀, 0, none⟩) D0.out.lt).trans x0
      have q2 : w1.cell? ⟨n₀ + 1 + 1, 0, none⟩ = some (.int .i64 s) := (hb1.cell (p := ⟨n₀ + 1 + 1, 0, none⟩) D2.out.lt).trans x2
      have e2 : Boxed w1 (n₀ + 1 + 1) 3 (.int .i64 s) := (hz.block (n₀ + 1 + 1) D2.out.lt).trans D2.out
      have q3 : w1.frozen? ⟨n₀ + 1 + 1, 0, none⟩ = false := e2.frozen
      have E2 := Lib.hid e2
      have HZ := Lib.hid hz
      clear hz e2 hb1
      go_wp2
      refine ⟨⟨q0, q2⟩, ?_⟩
      clear x0 x2 hS0 q0
      change wpListIn _ _ _ _ _ _ _ _
      gi_wp2
      have g1 := grown_set (World.grownBy.refl w1 (some (n₀ + 1 + 1))) 0 (.int .i64 (t : Int))
      have hnY : n₀ ≤ Y.heap.size := by have := D0.out.lt; omega
      have hbz : Below n₀ Y (w1.setCell ⟨n₀ + 1 + 1, 0, none⟩ (.int .i64 (t : Int))) := (HZ.out.mono hnY).setCell (p := ⟨n₀ + 1 + 1, 0, none⟩) (by show n₀ ≤ n₀ + 1 + 1; omega) _
      have k0 : Boxed w1 n₀ 41 (.slice A n c) := (HZ.out.block n₀ D0.out.lt).trans D0.out
      have k1 : Boxed w1 (n₀ + 1) 3 (.int .i64 ((rankRun L (valsN pr)).1 : Nat)) := (HZ.out.block (n₀ + 1) D1.out.lt).trans D1.out
      refine ⟨D4.out.trans ((KeepsOthers.of_grownBy (row := none) ⟨HZ.out.os, HZ.out.tape, HZ.out.output, HZ.out.size, fun k hk _ => HZ.out.block k hk⟩ (fun _ _ e => by cases e)).trans (KeepsOthers.setCell _ _ _)), D3.out.trans hbz, ⟨k0.other (by omega) _, k1.other (by omega) _, ?_⟩, HB.out.trans (D3.out.trans hbz)⟩
      rw [HST.out]
      exact E2.out.set _
  case done =>
    rintro D xs Z hD hS ⟨⟨c0, c1, c2⟩, hB⟩ hK
    have z1 := c1.cell
    have HS := Lib.hid hS
    clear hS
    gi_wp2
    refine ⟨by simp, .inl ⟨_, _, rfl, run_takeDeferred hK, ?_⟩⟩
    refine ⟨_, results_tmp rfl _ _ _, ?_⟩
    have e2 : Q = 2 ^ n - 1 := by have := HQ.out; omega
    have e3 := all_nodes ⟨n, by omega⟩
    dsimp only at e3
    have hv2 : valsN xs = List.range n := by rw [HS.out, e2, e3]
    refine ⟨by rw [hv2, HN.out]; rfl, ?_⟩
    rw [← EN.out]
    exact hB.trans (belowK_b (w := w) hle Z D _ _ (by have := EN.out; omega) hK rfl rfl)
  case stop =>
    rintro D cd pre W _ _ h _
    exact h.elim
end Go.Proofs.YtamabhdbcmjbjaaDoor
