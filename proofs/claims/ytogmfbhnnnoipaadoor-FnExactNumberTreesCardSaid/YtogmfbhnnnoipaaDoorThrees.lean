/- The number of sets of three nodes that are all neighbours of each other, by the program. -/
import Derived.Test.YtogmfbhnnnoipaaDoorEdgesIt
import Derived.Test.YtogmfbhnnnoipaaDoorBaseB
import Derived.Test.YtogmfbhnnnoipaaDoorThreeMath
import Derived.Test.YtogmfbhnnnoipaaDoorBaseA
namespace Go.Proofs.YtogmfbhnnnoipaaDoor
open Go Go.RowKit Go.Shelf
attribute [local go_sem] Oper.semAt_some
set_option linter.unusedVariables false
set_option maxRecDepth 100000

theorem wrap_sum (s m : Nat) (hs : s ≤ 100) (hm : m ≤ 6) : wrap64 ((s : Int) + (m : Int)) = ((s + m : Nat) : Int) := by rw [wrap_id (by omega) (by omega)]; omega
theorem tdiv_three (s : Nat) (hs : s ≤ 100) : ((s : Nat) : Int).tdiv 3 = ((s / 3 : Nat) : Int) := by rw [Int.tdiv_eq_ediv_of_nonneg (by omega)]; omega
theorem u64_small : ∀ z : Fin 64, IntKind.u64.wrap (z.val : Int) = (z.val : Int) := by decide +kernel
set_option maxHeartbeats 4000000 in
theorem threes_in (A : Option Addr) (c : Nat) (L : List Int) (hg : IsGraph L) (w : World) (h : Seen w A L) :
    CallsIn Fence.wide 6 Tryd.prog 56 #[.slice A L.length c] w (NumB w (threeN L)) := by
  have h1 := hg.1
  have h6 := hg.2.1
  obtain ⟨blk, off, hA0, hbl0, _⟩ := h 0 (by omega)
  obtain ⟨n, hn⟩ : ∃ n, n = L.length := ⟨_, rfl⟩
  have hT : threeN L = seenN L (edgesIn L (rows n)) / 3 := by rw [hn]; rfl
  have hel : (edgesIn L (rows n)).length ≤ 15 := Nat.le_trans (List.length_filter_le _ _) (rows_length n (by omega))
  rw [← hn] at h1 h6 ⊢
  have HN := Lib.hid hn
  have H := Lib.hid h
  have HG := Lib.hid hg
  have HT := Lib.hid hT
  have HEL := Lib.hid hel
  subst hA0
  clear h hg hn hT hel
  refine callsIn_of_wp_marks Tryd.func56 rfl trivial ?_ rfl
  simp only [Tryd.ntmps56, List.size_toArray, List.length_cons, List.length_nil, Nat.reduceAdd, Nat.reduceSub, Array.replicate_succ, Array.replicate_zero, List.push_toArray, List.append_toArray, List.nil_append, List.cons_append]
  gi_wp2_with (refine ⟨trivial, ?_⟩; gi_at_call 79; refine (callsIn_wide.2 (edgesIt_any _ _ _ _)).mono ?_; rintro e w' ⟨rfl, rfl⟩)
  obtain ⟨W, eW⟩ : ∃ W, W = ((w.alloc (.cells #[.slice (some ⟨blk, off, none⟩) n c] 52)).alloc (.cells #[.int .i64 0] 3)).alloc (.cells #[.slice (some ⟨blk, off, none⟩) n c] 52) := ⟨_, rfl⟩
  have sW : W.heap.size = w.heap.size + 1 + 1 + 1 := by rw [eW]; simp
  have hBW : Below w.heap.size w W := by rw [eW]; exact (((Below.refl _ w).alloc (Nat.le_refl _) _).alloc (by simp) _).alloc (by simp only [World.size_alloc]; omega) _
  have b0 : Boxed W w.heap.size 52 (.slice (some ⟨blk, off, none⟩) n c) := by rw [eW]; exact ((Boxed.new w _ _).alloc _).alloc _
  have b1 : Boxed W (w.heap.size + 1) 3 (.int .i64 0) := by
    rw [eW]; have h := Boxed.new (w.alloc (.cells #[.slice (some ⟨blk, off, none⟩) n c] 52)) 3 (.int .i64 0); rw [World.size_alloc] at h; exact h.alloc _
  have b2 : Boxed W (w.heap.size + 1 + 1) 52 (.slice (some ⟨blk, off, none⟩) n c) := by
    rw [eW]; have h := Boxed.new ((w.alloc (.cells #[.slice (some ⟨blk, off, none⟩) n c] 52)).alloc (.cells #[.int .i64 0] 3)) 52 (.slice (some ⟨blk, off, none⟩) n c); simp only [World.size_alloc] at h; exact h
  rw [← eW]
  clear eW
  obtain ⟨n₀, en⟩ : ∃ n₀, n₀ = w.heap.size := ⟨_, rfl⟩
  rw [← en] at sW hBW b0 b1 b2 hbl0 ⊢
  have hle : n₀ ≤ w.heap.size := by omega
  have EN := Lib.hid en
  have hsW : Seen W (some ⟨blk, off, none⟩) L := H.out.below (by rw [← en]; exact hBW)
  clear en
  refine wpIn_outer (α := Pr n) rfl (by omega) (gf := 108) (lb := #[.pointer (some ⟨n₀ + 1 + 1, 0, none⟩)]) rfl trivial (enters_of Tryd.func108 (by kernel_rfl) rfl)
    (edges_stops (some ⟨blk, off, none⟩) c L n HN.out HG.out (n₀ + 1 + 1) W (by omega) b2 hsW) keepG_tr (fun W l o o' _ ho hc _ => keepG_bk W l o o' ho hc) (Below.refl _ _) (fun _ => rfl)
    (fun pre Z => (Boxed Z n₀ 52 (.slice (some ⟨blk, off, none⟩) n c) ∧ (Boxed Z (n₀ + 1) 3 (.int .i64 ((seenN L (vals pre) : Nat) : Int)) ∧ Boxed Z (n₀ + 1 + 1) 52 (.slice (some ⟨blk, off, none⟩) n c))) ∧ Below n₀ w Z) (fun _ _ _ => False)
    (OwnFrom.and (OwnFrom.and (Own.from (boxed_own _ _ _) _) (OwnFrom.and (Own.from (boxed_own _ _ _) _) (Own.from (boxed_own _ _ _) _))) (ownFrom_below hle (by omega))) (fun _ _ _ _ _ hs _ _ => hs)
    ⟨⟨b0, b1, b2⟩, hBW⟩
    (fun x => { tmps := #[.slice (some ⟨blk, off, none⟩) n c, .pointer (some ⟨n₀, 0, none⟩), .int .i64 0, .pointer (some ⟨n₀ + 1, 0, none⟩), .int .i64 (x.1.1 : Int), .int .i64 (x.1.2 : Int), .slice (some ⟨blk, off, none⟩) n c,
      .func (.func 108) #[] #[.pointer (some ⟨n₀ + 1 + 1, 0, none⟩)], .int .i64 (x.1.1 : Int), .int .i64 (x.1.2 : Int), undef, undef, undef, undef, undef, undef, undef, undef, undef, undef, undef, undef, undef, undef, undef], defers := [] }) ?assign ?body ?done ?stop
  case assign =>
    intro l x W K hK
    gi_wp2
    simpa [encP] using hK
  case body =>
    rintro l pre x Z ⟨⟨c0, c1, c2⟩, hB⟩ hlen
    have hsl := seenN_le L (vals pre)
    rw [vals_length] at hsl
    have hvs := vals_snoc pre x
    obtain ⟨⟨u, v⟩, hu, hv⟩ := x
    dsimp only at hu hv hvs ⊢
    have hcel : ∀ k, k < n → Z.cell? ⟨blk, off + k, none⟩ = some (.int .i64 (ent L k)) ∧ ent L k < 64 := fun k hk => by
      obtain ⟨blk1, off1, hA1, hbl1, hc1⟩ := H.out k (by have := HN.out; omega)
      have e1 : blk = blk1 ∧ off = off1 := by injection hA1 with e; injection e with e1 e2; exact ⟨e1, e2⟩
      obtain ⟨rfl, rfl⟩ := e1
      have hin := (HG.out.2.2 k (by have := HN.out; omega)).1
      rw [ent_int hin] at hc1
      have hXl := ent_lt hin
      have h64 := two_le (n := L.length) (by have := HN.out; omega)
      exact ⟨(hB.cell (p := ⟨blk, off + k, none⟩) hbl0).trans hc1, by omega⟩
    obtain ⟨hcu, hXu⟩ := hcel u (by omega)
    obtain ⟨hcv, hXv⟩ := hcel v hv
    have hsn := seenN_snoc L (vals pre) (u, v)
    dsimp only at hsn
    rw [← hvs] at hsn
    obtain ⟨X, eX⟩ : ∃ X, X = ent L u := ⟨_, rfl⟩
    obtain ⟨Y, eY⟩ : ∃ Y, Y = ent L v := ⟨_, rfl⟩
    rw [← eX] at hcu hXu hsn
    rw [← eY] at hcv hXv hsn
    have f1 := i64_and_nat X Y (Nat.lt_trans hXu (by decide)) (Nat.lt_trans hXv (by decide))
    have hZ : X &&& Y < 64 := Nat.lt_of_le_of_lt Nat.and_le_left hXu
    obtain ⟨z, ez⟩ : ∃ z, z = X &&& Y := ⟨_, rfl⟩
    rw [← ez] at f1 hZ hsn
    obtain ⟨s, es⟩ : ∃ s, s = seenN L (vals pre) := ⟨_, rfl⟩
    rw [← es] at c1 hsl hsn
    have hcz := cnt_le z
    have HON := Lib.hid (fun w => ones_any z hZ w)
    have hcw : IntKind.u64.wrap (z : Int) = (z : Int) := u64_small ⟨z, hZ⟩
    obtain ⟨m, em⟩ : ∃ m, m = cnt z := ⟨_, rfl⟩
    rw [← em] at hsn hcz HON
    have hs100 : s ≤ 100 := by omega
    have hwr : wrap64 ((s : Int) + (m : Int)) = ((s + m : Nat) : Int) := wrap_sum s m hs100 hcz
    have HWR := Lib.hid hwr
    have HSN := Lib.hid hsn
    have C0 := Lib.hid c0
    have C1 := Lib.hid c1
    have C2 := Lib.hid c2
    obtain ⟨w2, ew2⟩ : ∃ w2, w2 = Z.drew := ⟨_, rfl⟩
    have y0 : w2.cell? ⟨n₀, 0, none⟩ = some (.slice (some ⟨blk, off, none⟩) n c) := by rw [ew2]; exact c0.cell
    have y1 : w2.cell? ⟨n₀ + 1, 0, none⟩ = some (.int .i64 (s : Nat)) := by rw [ew2]; exact c1.cell
    have y2 : w2.frozen? ⟨n₀ + 1, 0, none⟩ = false := by rw [ew2]; exact c1.frozen
    have y3 : w2.cell? ⟨blk, off + u, none⟩ = some (.int .i64 (X : Nat)) := by rw [ew2]; exact hcu
    have y4 : w2.cell? ⟨blk, off + v, none⟩ = some (.int .i64 (Y : Nat)) := by rw [ew2]; exact hcv
    have z0 := c0.cell
    have z1 := c1.cell
    have z2 := c1.frozen
    have hun : (0 : Int) ≤ (u : Int) ∧ (u : Int) < (n : Int) := by omega
    have hvn : (0 : Int) ≤ (v : Int) ∧ (v : Int) < (n : Int) := by omega
    have EW2 := Lib.hid ew2
    clear c0 c1 c2 hcel hsn es em ez eX eY hsl hvs ew2 hwr hcz
    gi_wp2
    refine wpIn_tail_round 13 (by kernel_rfl) (by kernel_rfl) (by kernel_rfl) ?_
    simp only [List.take_succ_cons, List.take_zero, List.drop_succ_cons, List.drop_zero]
    iterate 11 still_step
    still_call ((HON.out _).mono fun e w' ⟨he, hw⟩ => ⟨he, hw.symm⟩)
    repeat still_step
    refine wpStill_nil ?_
    rw [← EW2.out]
    gi_wp2
    rw [EW2.out, HWR.out]
    have hB2 : Below n₀ w (Z.setCell ⟨n₀ + 1, 0, none⟩ (.int .i64 ((s + m : Nat) : Int))).drew := (hB.setCell (p := ⟨n₀ + 1, 0, none⟩) (by show n₀ ≤ n₀ + 1; omega) _).drew
    have hG2 : Boxed (Z.setCell ⟨n₀ + 1, 0, none⟩ (.int .i64 ((s + m : Nat) : Int))).drew (n₀ + 1 + 1) 52 (.slice (some ⟨blk, off, none⟩) n c) := C2.out.other (by omega) _
    refine ⟨⟨((KeepsOthers.setCell _ _ _).trans (KeepsOthers.drew _)).from _, ⟨fun _ => hG2, fun _ => H.out.below (by rw [← EN.out]; exact hB2)⟩, ⟨C0.out.other (by omega) _, ?_, hG2⟩, hB2⟩, ?_⟩
    · rw [HSN.out]; exact C1.out.set _
    · intro k o h1 _ h3
      exact (Below.heap_setCell _ _ _ k (fun e => by dsimp only at e; omega)).trans h3
  case done =>
    rintro D xs Z hD hS ⟨⟨c0, c1, c2⟩, hB⟩ hK
    obtain ⟨ys, hy, rfl⟩ := hS
    rw [vals_edgesOf, hy] at c1
    have hsl := seenN_le L (edgesIn L (rows n))
    have hel := HEL.out
    obtain ⟨s, es⟩ : ∃ s, s = seenN L (edgesIn L (rows n)) := ⟨_, rfl⟩
    rw [← es] at c1 hsl
    have ht := HT.out
    rw [← es] at ht
    have hs100 : s ≤ 100 := by omega
    have hq := tdiv_three s hs100
    have HTT := Lib.hid ht
    have z1 := c1.cell
    clear hsl hel es ht hy c0 c1 c2
    gi_wp2
    refine ⟨by simp, .inl ⟨_, _, rfl, run_takeDeferred hK, ?_⟩⟩
    refine ⟨_, results_tmp rfl _ _ _, ?_⟩
    refine ⟨?_, ?_⟩
    · rw [HTT.out]
      first | rfl | (rw [← hq]; rfl)
    · rw [← EN.out]
      exact hB.trans (belowK_b (w := w) hle Z D _ _ (by have := EN.out; omega) hK rfl rfl)
  case stop =>
    rintro D cd pre W _ _ h _
    exact h.elim
end Go.Proofs.YtogmfbhnnnoipaaDoor
