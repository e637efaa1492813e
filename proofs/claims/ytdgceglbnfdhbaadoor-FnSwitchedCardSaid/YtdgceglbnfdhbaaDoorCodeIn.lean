/- The program's code of a graph, by a range over the pairs. -/
import Derived.RangeFuncBox
import Derived.Test.YtdgceglbnfdhbaaDoorBaseA
import Derived.Test.YtdgceglbnfdhbaaDoorSpecCode
namespace Go.Proofs.YtdgceglbnfdhbaaDoor
open Go.RowKit Go.Shelf
attribute [local go_sem] Oper.semAt_some
set_option linter.unusedVariables false
set_option maxRecDepth 100000

/-- How a call that tells a number ends. -/
def NumB (w : World) (x : Nat) (e : Ending) (w' : World) : Prop := e = .returned (.int .i64 (x : Nat)) ∧ Below w.heap.size w w'

/-- Between two rounds of code: the graph's box, the number so far, the place. -/
def CodeI (n₀ : Nat) (S : Value) (L : List Int) (m : Nat) (pre : List (Pr m)) (W : World) : Prop :=
  Boxed W n₀ 44 S ∧ Boxed W (n₀ + 1) 3 (.int .i64 ((crun L (vals pre)).1 : Nat)) ∧ Boxed W (n₀ + 1 + 1) 3 (.int .i64 (pre.length : Nat))
theorem codeI_own (n₀ : Nat) (S : Value) (L : List Int) (m : Nat) : Own (CodeI n₀ S L m) := fun s X Y row hs hg hr =>
  ⟨boxed_own _ _ (fun _ : Unit => _) () X Y row hs.1 hg hr, boxed_own _ _ (fun _ : Unit => _) () X Y row hs.2.1 hg hr, boxed_own _ _ (fun _ : Unit => _) () X Y row hs.2.2 hg hr⟩

set_option maxRecDepth 100000 in
set_option maxHeartbeats 2000000 in
theorem implCode_in (A : Option Addr) (c : Nat) (L : List Int) (hg : IsGraph L) (w : World) (h : Seen w A L) :
    CallsIn Fence.wide 5 Tryd.prog 72 #[.slice A L.length c] w (NumB w (codeOf L)) := by
  have h1 := hg.1
  have h6 := hg.2.1
  obtain ⟨blk, off, hA0, hbl0, _⟩ := h 0 (by omega)
  obtain ⟨n, hn⟩ : ∃ n, n = L.length := ⟨_, rfl⟩
  rw [← hn] at h1 h6 ⊢
  subst hA0
  have HN := Lib.hid hn
  have H := Lib.hid h
  have HG := Lib.hid hg
  clear h hg hn
  refine callsIn_of_wp_marks Tryd.func72 rfl trivial ?_ rfl
  simp only [Tryd.ntmps72, List.size_toArray, List.length_cons, List.length_nil, Nat.reduceAdd, Nat.reduceSub, Array.replicate_succ, Array.replicate_zero, List.push_toArray, List.append_toArray, List.nil_append, List.cons_append]
  gi_wp2_with (refine ⟨trivial, ?_⟩; gi_at_call 77; refine (callsIn_wide.2 (pairs_any n _)).mono ?_; rintro e w' ⟨rfl, rfl⟩)
  obtain ⟨W, eW⟩ : ∃ W, W = (((w.alloc (.cells #[.slice (some ⟨blk, off, none⟩) n c] 44)).alloc (.cells #[.int .i64 0] 3)).alloc (.cells #[.int .i64 0] 3)).alloc (.cells #[.int .i64 n] 3) := ⟨_, rfl⟩
  have sW : W.heap.size = w.heap.size + 1 + 1 + 1 + 1 := by rw [eW]; simp
  have hBW : Below w.heap.size w W := by rw [eW]; exact ((((Below.refl _ w).alloc (Nat.le_refl _) _).alloc (by simp) _).alloc (by simp; omega) _).alloc (by simp; omega) _
  have b0 : Boxed W w.heap.size 44 (.slice (some ⟨blk, off, none⟩) n c) := by rw [eW]; exact (((Boxed.new w _ _).alloc _).alloc _).alloc _
  have b1 : Boxed W (w.heap.size + 1) 3 (.int .i64 0) := by
    rw [eW]; have h := Boxed.new (w.alloc (.cells #[.slice (some ⟨blk, off, none⟩) n c] 44)) 3 (.int .i64 0); rw [World.size_alloc] at h; exact (h.alloc _).alloc _
  have b2 : Boxed W (w.heap.size + 1 + 1) 3 (.int .i64 0) := by
    rw [eW]; have h := Boxed.new ((w.alloc (.cells #[.slice (some ⟨blk, off, none⟩) n c] 44)).alloc (.cells #[.int .i64 0] 3)) 3 (.int .i64 0); rw [World.size_alloc, World.size_alloc] at h; exact h.alloc _
  have b3 : W.cell? ⟨w.heap.size + 1 + 1 + 1, 0, none⟩ = some (.int .i64 n) := by
    rw [eW]; have h := Boxed.new (((w.alloc (.cells #[.slice (some ⟨blk, off, none⟩) n c] 44)).alloc (.cells #[.int .i64 0] 3)).alloc (.cells #[.int .i64 0] 3)) 3 (.int .i64 n); rw [World.size_alloc, World.size_alloc, World.size_alloc] at h; exact h.cell
  rw [← eW]
  clear eW
  obtain ⟨n₀, en⟩ : ∃ n₀, n₀ = w.heap.size := ⟨_, rfl⟩
  rw [← en] at sW hBW b0 b1 b2 b3 hbl0 ⊢
  have EN := Lib.hid en
  have SW := Lib.hid sW
  have hle : n₀ ≤ w.heap.size := by omega
  have hleW : n₀ + 1 + 1 + 1 < W.heap.size := by omega
  clear en sW
  refine wpIn_rangeFunc_ownF (α := Pr n) rfl (by omega) (gf := 83) (lb := #[.pointer (some ⟨n₀ + 1 + 1 + 1, 0, none⟩)]) rfl trivial (enters_of Tryd.func83 (by kernel_rfl) rfl)
    (pairs_stops Fence.wide _ trivial rfl (by omega) (n₀ + 1 + 1 + 1) n h6 W (by omega) b3) (fun _ _ => trivial) (fun _ _ _ _ _ _ _ _ => trivial) (Below.refl _ _) (fun _ => rfl)
    (fun pre W => CodeI n₀ (.slice (some ⟨blk, off, none⟩) n c) L n pre W ∧ Below n₀ w W) (fun _ _ _ => False)
    (OwnFrom.and (Own.from (codeI_own _ _ _ _) _) (ownFrom_below hle (by omega))) (fun _ _ _ _ _ hs _ _ => hs)
    ⟨⟨b0, b1, b2⟩, hBW⟩
    (fun x => { tmps := #[.slice (some ⟨blk, off, none⟩) n c, .pointer (some ⟨n₀, 0, none⟩), .int .i64 0, .pointer (some ⟨n₀ + 1, 0, none⟩), .pointer (some ⟨n₀ + 1 + 1, 0, none⟩), .int .i64 (x.1.1 : Int), .int .i64 (x.1.2 : Int), .slice (some ⟨blk, off, none⟩) n c, .int .i64 n,
      .func (.func 83) #[] #[.pointer (some ⟨n₀ + 1 + 1 + 1, 0, none⟩)], .int .i64 (x.1.1 : Int), .int .i64 (x.1.2 : Int), undef, undef, undef, undef, undef, undef, undef, undef, undef, undef, undef], defers := [] }) ?assign ?body ?done ?stop
  case assign =>
    intro l x W K hK
    gi_wp2
    exact hK
  case body =>
    rintro l pre x Wr ⟨⟨c0, c1, c2⟩, hB⟩ hlen
    obtain ⟨⟨u, v⟩, hu, hv⟩ := x
    dsimp only at hu hv ⊢
    obtain ⟨k, ek⟩ : ∃ k, k = pre.length := ⟨_, rfl⟩
    have hk1 : (pre ++ [(⟨(u, v), hu, hv⟩ : Pr n)]).length = k + 1 := by rw [List.length_append, ek]; rfl
    have hst := crun_snoc L (vals pre) (u, v)
    have hat := crun_at L (vals pre)
    have hsm := crun_small L (vals pre) (by rw [vals_length]; omega)
    have hvs := vals_snoc pre (⟨(u, v), hu, hv⟩ : Pr n)
    dsimp only at hvs
    rw [← hvs] at hst
    rw [vals_length, ← ek] at hat
    rw [← ek] at c2 hlen
    obtain ⟨q, eq⟩ : ∃ q, q = (crun L (vals pre)).1 := ⟨_, rfl⟩
    rw [← eq] at c1 hsm
    obtain ⟨blk1, off1, hA1, hbl1, hc1⟩ := H.out u (by have := HN.out; omega)
    have e1 : blk = blk1 ∧ off = off1 := by injection hA1 with e; injection e with e1 e2; exact ⟨e1, e2⟩
    obtain ⟨rfl, rfl⟩ := e1
    have hin := (HG.out.2.2 u (by have := HN.out; omega)).1
    have hX := ent_int hin
    have hXl := ent_lt hin
    have h64 := two_le (n := L.length) (by have := HN.out; omega)
    obtain ⟨X, eX⟩ : ∃ X, X = ent L u := ⟨_, rfl⟩
    rw [← eX] at hX hXl
    rw [hX] at hc1
    have hcu : Wr.cell? ⟨blk, off + u, none⟩ = some (.int .i64 X) := (hB.cell (p := ⟨blk, off + u, none⟩) hbl0).trans hc1
    have hXs : X < 1048576 := by omega
    have hvs40 : v < 40 := by omega
    have hun : u < n := by omega
    have hq2 : (crun L (vals (pre ++ [(⟨(u, v), hu, hv⟩ : Pr n)]))).1 = q ||| (X / 2 ^ v % 2) * 2 ^ k := by
      rw [hst]
      show (crun L (vals pre)).1 ||| bt L u v * 2 ^ (crun L (vals pre)).2 = _
      rw [hat, ← eq]
      unfold bt
      rw [← eX]
    have HK := Lib.hid hk1
    have HQ := Lib.hid hq2
    have C0 := Lib.hid c0
    have C1 := Lib.hid c1
    have C2 := Lib.hid c2
    have z0 := c0.cell
    have z1 := c1.cell
    have z2 := c2.cell
    have y1 := c1.frozen
    have y2 := c2.frozen
    have w1 := wrap_pow k (by omega)
    obtain ⟨p, ep⟩ : ∃ p, p = 2 ^ k := ⟨_, rfl⟩
    have hp : p < 2 ^ 15 := by rw [ep]; exact Nat.pow_lt_pow_right (by omega) hlen
    rw [← ep] at w1
    have w2 : IntKind.i64.wrap ((2 : Int) ^ k) = (p : Int) := by rw [IntKind.wrap_i64]; unfold wrap64 at w1; exact w1
    have w3 := i64_or_nat q p (Nat.lt_trans hsm (by decide)) (Nat.lt_trans hp (by decide))
    have EP := Lib.hid ep
    clear hk1 hq2 c0 c1 c2 hst hat hvs ek eq hA1 hbl1 hc1 hin hX hXl h64 eX ep hp hsm
    by_cases hbit : X / 2 ^ v % 2 = 1
    · have hbb : (X / 2 ^ v % 2 == 1) = true := by simp [hbit]
      have HBT := Lib.hid hbit
      clear hbit
      have hmx : Tryd.prog.follows .mixedOrders = true := by kernel_rfl
      gi_wp2_with (refine ⟨trivial, ?_⟩; gi_at_call 54; refine (CallsIn.inRound l (callsIn_wide.2 (edge_any blk off n c u v X _ hXs hun hvs40 hcu))).mono ?_; rw [hbb]; rintro e w' ⟨rfl, rfl⟩)
      gi_region_with_o (fail)
      all_goals gi_wp2
      all_goals (try go_bits)
      all_goals
        refine ⟨((KeepsOthers.setCell _ _ _).trans (KeepsOthers.setCell _ _ _)).trans (KeepsOthers.drew _), trivial, ⟨(C0.out.other (by omega) _).other (by omega) _, ?_, ?_⟩, ((hB.setCell (p := ⟨n₀ + 1, 0, none⟩) (by show n₀ ≤ n₀ + 1; omega) _).setCell (p := ⟨n₀ + 1 + 1, 0, none⟩) (by show n₀ ≤ n₀ + 1 + 1; omega) _).drew⟩
        · rw [HQ.out, HBT.out, Nat.one_mul, ← EP.out]; exact (C1.out.set _).other (by omega) _
        · rw [HK.out]; exact (C2.out.other (by omega) _).set _
    · have hb0 : X / 2 ^ v % 2 = 0 := by omega
      have hbb : (X / 2 ^ v % 2 == 1) = false := by simp [hb0]
      have HBT := Lib.hid hb0
      clear hbit hb0
      gi_wp2_with (refine ⟨trivial, ?_⟩; gi_at_call 54; refine (CallsIn.inRound l (callsIn_wide.2 (edge_any blk off n c u v X _ hXs hun hvs40 hcu))).mono ?_; rw [hbb]; rintro e w' ⟨rfl, rfl⟩)
      refine ⟨KeepsOthers.setCell _ _ _, trivial, ⟨C0.out.other (by omega) _, ?_, ?_⟩, hB.setCell (p := ⟨n₀ + 1 + 1, 0, none⟩) (by show n₀ ≤ n₀ + 1 + 1; omega) _⟩
      · rw [HQ.out, HBT.out, Nat.zero_mul, Nat.or_zero]; exact C1.out.other (by omega) _
      · rw [HK.out]; exact C2.out.set _
  case done =>
    rintro D xs Wr hD hS ⟨⟨c0, c1, c2⟩, hB⟩ hK
    have z1 := c1.cell
    have HS := Lib.hid hS
    clear hS
    gi_wp2
    refine ⟨by simp, .inl ⟨_, _, rfl, run_takeDeferred hK, ?_⟩⟩
    refine ⟨_, results_tmp rfl _ _ _, ?_⟩
    refine ⟨?_, ?_⟩
    · unfold codeOf
      rw [← HN.out, ← HS.out]
      rfl
    · rw [← EN.out]
      exact hB.trans (belowK_b (w := w) hle Wr D _ _ (by have := EN.out; omega) hK rfl rfl)
  case stop =>
    rintro D cd pre W _ _ h _
    exact h.elim
end Go.Proofs.YtdgceglbnfdhbaaDoor
