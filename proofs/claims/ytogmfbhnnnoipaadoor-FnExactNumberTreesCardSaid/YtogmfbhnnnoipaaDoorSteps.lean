/- The matrix of a graph, by the program: a range over its edges. -/
import Derived.Test.YtogmfbhnnnoipaaDoorEdgesIt
import Derived.Test.YtogmfbhnnnoipaaDoorMatIn
import Derived.Test.YtogmfbhnnnoipaaDoorBaseA
import Derived.Test.YtogmfbhnnnoipaaDoorTimes
import Derived.Test.YtogmfbhnnnoipaaDoorRegionInv
namespace Go.Proofs.YtogmfbhnnnoipaaDoor
open Go Go.RowKit Go.Shelf
attribute [local go_sem] Oper.semAt_some sl_true sl_false
set_option linter.unusedVariables false
set_option maxRecDepth 100000

/-- The matrix of some edges. -/
def edMx (ps : List (Nat × Nat)) : Mx := fun i j => if (i, j) ∈ ps ∨ (j, i) ∈ ps then 1 else 0
theorem edMx_nil : edMx [] = fun _ _ => 0 := by funext i j; simp [edMx]
theorem edMx_snoc (ps : List (Nat × Nat)) (a b : Nat) : mset (mset (edMx ps) a b 1) b a 1 = edMx (ps ++ [(a, b)]) := by
  funext i j
  unfold mset edMx
  by_cases h1 : i = b ∧ j = a
  · rw [if_pos h1, if_pos (.inr (by rw [h1.1, h1.2]; simp))]
  · rw [if_neg h1]
    by_cases h2 : i = a ∧ j = b
    · rw [if_pos h2, if_pos (.inl (by rw [h2.1, h2.2]; simp))]
    · rw [if_neg h2]
      by_cases h3 : (i, j) ∈ ps ∨ (j, i) ∈ ps
      · rw [if_pos h3, if_pos (h3.imp (fun h => by simp [h]) (fun h => by simp [h]))]
      · rw [if_neg h3, if_neg]
        intro h4
        apply h3
        rcases h4 with h4 | h4
        · rw [List.mem_append, List.mem_singleton] at h4
          exact .inl (h4.resolve_right (fun e => h2 (by injection e with e1 e2; exact ⟨e1, e2⟩)))
        · rw [List.mem_append, List.mem_singleton] at h4
          exact .inr (h4.resolve_right (fun e => h1 (by injection e with e1 e2; exact ⟨e2, e1⟩)))
theorem bt_swap {L : List Int} (hg : IsGraph L) {i j : Nat} (hi : i < L.length) (hj : j < L.length) : bt L i j = bt L j i := by
  rcases Nat.lt_trichotomy i j with h | h | h
  · exact ((hg.2.2 j hj).2.2 i h).symm
  · rw [h]
  · exact (hg.2.2 i hi).2.2 j h
theorem edMx_all {L : List Int} (hg : IsGraph L) : MEq (edMx (edgesIn L (rows L.length))) (wmx (adj L)) := fun i j _ _ => by
  unfold edMx wmx
  by_cases h : i < L.length ∧ j < L.length
  · rw [adj_in h.1 h.2]
    have hs := bt_swap hg h.1 h.2
    have h0 : bt L i i = 0 := (hg.2.2 i h.1).2.1
    have hle := bt_le L i j
    unfold edgesIn
    simp only [List.mem_filter, rows_all, beq_iff_eq]
    by_cases hb : bt L i j = 1
    · have hne : i ≠ j := fun e => by rw [← e, h0] at hb; cases hb
      rw [if_pos, hb]
      · simp [wrap64]
      · rcases Nat.lt_or_ge i j with h1 | h1
        · exact .inl ⟨⟨h1, h.2⟩, hb⟩
        · exact .inr ⟨⟨by omega, h.1⟩, by rw [← hs]; exact hb⟩
    · rw [if_neg]
      · have : bt L i j = 0 := by omega
        rw [this]; simp [wrap64]
      · rintro (⟨_, e⟩ | ⟨_, e⟩)
        · exact hb e
        · exact hb (by rw [hs]; exact e)
  · rw [adj_out h, if_neg]
    · simp [wrap64]
    · unfold edgesIn
      simp only [List.mem_filter, rows_all]
      rintro (⟨e, _⟩ | ⟨e, _⟩)
      · exact h ⟨by omega, e.2⟩
      · exact h ⟨e.2, by omega⟩

set_option maxHeartbeats 4000000 in
theorem steps_in (A : Option Addr) (c : Nat) (L : List Int) (hg : IsGraph L) (w : World) (h : Seen w A L) :
    CallsIn Fence.wide 6 Tryd.prog 75 #[.slice A L.length c] w (Mat1 w (wmx (adj L))) := by
  have h1 := hg.1
  have h6 := hg.2.1
  have hE := edMx_all hg
  obtain ⟨n, hn⟩ : ∃ n, n = L.length := ⟨_, rfl⟩
  rw [← hn] at h1 h6 hE ⊢
  have HN := Lib.hid hn
  have H := Lib.hid h
  have HG := Lib.hid hg
  have HE := Lib.hid hE
  clear h hg hn hE
  refine callsIn_of_wp_marks Tryd.func75 rfl trivial ?_ rfl
  simp only [Tryd.ntmps75, List.size_toArray, List.length_cons, List.length_nil, Nat.reduceAdd, Nat.reduceSub, Array.replicate_succ, Array.replicate_zero, List.push_toArray, List.append_toArray, List.nil_append, List.cons_append]
  gi_wp2_with (first | refine stepIn_alloc_mat rfl rfl ?_ | (refine ⟨trivial, ?_⟩; gi_at_call 79; refine (callsIn_wide.2 (edgesIt_any _ _ _ _)).mono ?_; rintro e w' ⟨rfl, rfl⟩))
  obtain ⟨W, eW⟩ : ∃ W, W = ((w.alloc (.cells (matC fun _ _ => 0) 45)).alloc (.cells (matC fun _ _ => 0) 45)).alloc (.cells #[.slice A n c] 52) := ⟨_, rfl⟩
  have sW : W.heap.size = w.heap.size + 1 + 1 + 1 := by rw [eW]; simp
  have hBW : Below w.heap.size w W := by rw [eW]; exact (((Below.refl _ w).alloc (Nat.le_refl _) _).alloc (by simp) _).alloc (by simp only [World.size_alloc]; omega) _
  have b0 : MatAt W w.heap.size (fun _ _ => 0) := by rw [eW]; exact ((MatAt.new w _).alloc _).alloc _
  have b1 : MatAt W (w.heap.size + 1) (edMx []) := by
    rw [eW, edMx_nil]; have h := MatAt.new (w.alloc (.cells (matC fun _ _ => 0) 45)) (fun _ _ => 0); rw [World.size_alloc] at h; exact h.alloc _
  have b2 : Boxed W (w.heap.size + 1 + 1) 52 (.slice A n c) := by
    rw [eW]; have h := Boxed.new ((w.alloc (.cells (matC fun _ _ => 0) 45)).alloc (.cells (matC fun _ _ => 0) 45)) 52 (.slice A n c); simp only [World.size_alloc] at h; exact h
  rw [← eW]
  clear eW
  obtain ⟨n₀, en⟩ : ∃ n₀, n₀ = w.heap.size := ⟨_, rfl⟩
  rw [← en] at sW hBW b0 b1 b2 ⊢
  have hle : n₀ ≤ w.heap.size := by omega
  have EN := Lib.hid en
  have hsW : Seen W A L := H.out.below (by rw [← en]; exact hBW)
  clear en
  refine wpIn_outer (α := Pr n) rfl (by omega) (gf := 108) (lb := #[.pointer (some ⟨n₀ + 1 + 1, 0, none⟩)]) rfl trivial (enters_of Tryd.func108 (by kernel_rfl) rfl)
    (edges_stops A c L n HN.out HG.out (n₀ + 1 + 1) W (by omega) b2 hsW) keepG_tr (fun W l o o' _ ho hc _ => keepG_bk W l o o' ho hc) (Below.refl _ _) (fun _ => rfl)
    (fun pre Z => (MatAt Z n₀ (fun _ _ => 0) ∧ (MatAt Z (n₀ + 1) (edMx (vals pre)) ∧ Boxed Z (n₀ + 1 + 1) 52 (.slice A n c))) ∧ Below n₀ w Z) (fun _ _ _ => False)
    (OwnFrom.and (OwnFrom.and (Own.from (mat_own _ _) _) (OwnFrom.and (Own.from (mat_own (n₀ + 1) (fun pre : List (Pr n) => edMx (vals pre))) _) (Own.from (boxed_own _ _ _) _))) (ownFrom_below hle (by omega))) (fun _ _ _ _ _ hs _ _ => hs)
    ⟨⟨b0, b1, b2⟩, hBW⟩
    (fun x => { tmps := #[.slice A n c, undef, .pointer (some ⟨n₀, 0, none⟩), .pointer (some ⟨n₀ + 1, 0, none⟩), .int .i64 (x.1.1 : Int), .int .i64 (x.1.2 : Int), .slice A n c,
      .func (.func 108) #[] #[.pointer (some ⟨n₀ + 1 + 1, 0, none⟩)], .int .i64 (x.1.1 : Int), .int .i64 (x.1.2 : Int), undef, undef, undef, undef, undef, undef, undef, undef, undef], defers := [] }) ?assign ?body ?done ?stop
  case assign =>
    intro l x W K hK
    gi_wp2
    simpa [encP] using hK
  case body =>
    rintro l pre x Z ⟨⟨c0, c1, c2⟩, hB⟩ hlen
    obtain ⟨⟨u, v⟩, hu, hv⟩ := x
    dsimp only at hu hv ⊢
    have hu6 : u < 6 := by omega
    have hv6 : v < 6 := by omega
    have a1 := addr_mat (n₀ + 1) u hu6
    have a2 := addr_row (n₀ + 1) (u * 6) v hv6
    have a3 := addr_mat (n₀ + 1) v hv6
    have a4 := addr_row (n₀ + 1) (v * 6) u hu6
    have z1 := c1.cell hu6 hv6
    have f1 := c1.frozen (u * 6 + v)
    have d1 := c1.set 1 hu6 hv6
    have z2 := d1.cell hv6 hu6
    have f2 := d1.frozen (v * 6 + u)
    have d2 := d1.set 1 hv6 hu6
    rw [edMx_snoc, show vals pre ++ [(u, v)] = vals (pre ++ [(⟨(u, v), hu, hv⟩ : Pr n)]) from (vals_snoc pre (⟨(u, v), hu, hv⟩ : Pr n)).symm] at d2
    have D2 := Lib.hid d2
    have C0 := Lib.hid c0
    have C2 := Lib.hid c2
    obtain ⟨y1, ey1⟩ : ∃ y1, y1 = edMx (vals pre) u v := ⟨_, rfl⟩
    obtain ⟨y2, ey2⟩ : ∃ y2, y2 = mset (edMx (vals pre)) u v 1 v u := ⟨_, rfl⟩
    rw [← ey1] at z1
    rw [← ey2] at z2
    have hmx : Tryd.prog.follows .mixedOrders = true := by kernel_rfl
    clear c0 c1 c2 d1 d2 ey1 ey2 hlen
    obtain ⟨p1, ep1⟩ : ∃ p1 : Addr, p1 = ⟨n₀ + 1, u * 6 + v, none⟩ := ⟨_, rfl⟩
    obtain ⟨p2, ep2⟩ : ∃ p2 : Addr, p2 = ⟨n₀ + 1, v * 6 + u, none⟩ := ⟨_, rfl⟩
    rw [← ep1] at a2 z1 f1 z2 f2 D2
    rw [← ep2] at a4 z2 f2 D2
    have EP1 := Lib.hid ep1
    have EP2 := Lib.hid ep2
    clear ep1 ep2
    gi_wp2
    refine wpIn_region_inv hmx (fun listed a W => ∃ b0 b1 b2 b3 b4 b5 b6 b7 b8 b9 : Bool, listed = #[b0, b1, b2, b3, b4, b5, b6, b7, b8, b9] ∧
      a = { tmps := #[.slice A n c, undef, .pointer (some ⟨n₀, 0, none⟩), .pointer (some ⟨n₀ + 1, 0, none⟩), .int .i64 (u : Int), .int .i64 (v : Int), .slice A n c,
        .func (.func 108) #[] #[.pointer (some ⟨n₀ + 1 + 1, 0, none⟩)], .int .i64 (u : Int), .int .i64 (v : Int),
        sl b0 (.int .i64 (u : Int)), sl b1 (.int .i64 (v : Int)), sl b2 (.int .i64 (v : Int)), sl b3 (.int .i64 (u : Int)), sl b4 (.pointer (some ⟨n₀ + 1, u * 6, none⟩)), sl b5 (.pointer (some p1)), sl b7 (.pointer (some ⟨n₀ + 1, v * 6, none⟩)), sl b8 (.pointer (some p2)), undef], defers := [] } ∧
      (b9 = true → b6 = true) ∧ W = (if b9 then (Z.setCell p1 (.int .i64 1)).setCell p2 (.int .i64 1) else if b6 then Z.setCell p1 (.int .i64 1) else Z).drew) ?h0 ?step ?hu ?hend
    case hu => decide +kernel
    case h0 => exact ⟨false, false, false, false, false, false, false, false, false, false, rfl, rfl, fun h => h, rfl⟩
    case step =>
      rintro listed a W i ⟨b0, b1, b2, b3, b4, b5, b6, b7, b8, b9, rfl, rfl, hcl, rfl⟩ hi
      obtain ⟨hi0, o, ho, haf⟩ := mem_ready.1 hi
      have hlt : i < 10 := (Array.getElem?_eq_some_iff.1 ho).1
      obtain rfl | rfl | rfl | rfl | rfl | rfl | rfl | rfl | rfl | rfl : i = 0 ∨ i = 1 ∨ i = 2 ∨ i = 3 ∨ i = 4 ∨ i = 5 ∨ i = 6 ∨ i = 7 ∨ i = 8 ∨ i = 9 := by omega
      all_goals
        cases ho
        simp [Region.binds] at hi0 haf
        clear hi hlt
      case inl.refl =>
        subst hi0
        refine wpOpIn_step rfl (fun K hK => ?_)
        rw [if_pos (by rfl)]
        go_simp
        exact hK _ _ ⟨true, b1, b2, b3, b4, b5, b6, b7, b8, b9, rfl, rfl, hcl, rfl⟩
      case inr.inl.refl =>
        subst hi0
        refine wpOpIn_step rfl (fun K hK => ?_)
        rw [if_pos (by rfl)]
        go_simp
        exact hK _ _ ⟨b0, true, b2, b3, b4, b5, b6, b7, b8, b9, rfl, rfl, hcl, rfl⟩
      case inr.inr.inl.refl =>
        subst hi0
        refine wpOpIn_step rfl (fun K hK => ?_)
        rw [if_pos (by rfl)]
        go_simp
        exact hK _ _ ⟨b0, b1, true, b3, b4, b5, b6, b7, b8, b9, rfl, rfl, hcl, rfl⟩
      case inr.inr.inr.inl.refl =>
        subst hi0
        refine wpOpIn_step rfl (fun K hK => ?_)
        rw [if_pos (by rfl)]
        go_simp
        exact hK _ _ ⟨b0, b1, b2, true, b4, b5, b6, b7, b8, b9, rfl, rfl, hcl, rfl⟩
      case inr.inr.inr.inr.inl.refl =>
        subst hi0
        subst haf
        refine wpOpIn_step rfl (fun K hK => ?_)
        rw [if_pos (by rfl)]
        go_simp
        exact hK _ _ ⟨true, b1, b2, b3, true, b5, b6, b7, b8, b9, rfl, rfl, hcl, rfl⟩
      case inr.inr.inr.inr.inr.inl.refl =>
        subst hi0
        obtain ⟨h4, h1, h0, _⟩ := haf
        subst h4
        subst h1
        subst h0
        refine wpOpIn_step rfl (fun K hK => ?_)
        rw [if_pos (by rfl)]
        go_simp
        exact hK _ _ ⟨true, true, b2, b3, true, true, b6, b7, b8, b9, rfl, rfl, hcl, rfl⟩
      case inr.inr.inr.inr.inr.inr.inl.refl =>
        subst hi0
        obtain ⟨h5, h0, h1⟩ := haf
        subst h5
        subst h0
        subst h1
        have h9 : b9 = false := by cases b9 <;> simp_all
        subst h9
        refine wpOpIn_step rfl (fun K hK => ?_)
        rw [if_pos (by rfl)]
        go_simp
        exact hK _ _ ⟨true, true, b2, b3, b4, true, true, b7, b8, false, rfl, rfl, fun _ => rfl, rfl⟩
      case inr.inr.inr.inr.inr.inr.inr.inl.refl =>
        subst hi0
        subst haf
        refine wpOpIn_step rfl (fun K hK => ?_)
        rw [if_pos (by rfl)]
        go_simp
        exact hK _ _ ⟨b0, b1, true, b3, b4, b5, b6, true, b8, b9, rfl, rfl, hcl, rfl⟩
      case inr.inr.inr.inr.inr.inr.inr.inr.inl.refl =>
        subst hi0
        obtain ⟨h7, h3, h0, h1, h2, _, h4, h5, h6⟩ := haf
        subst h7
        subst h3
        subst h0
        subst h1
        subst h2
        subst h4
        subst h5
        subst h6
        refine wpOpIn_step rfl (fun K hK => ?_)
        rw [if_pos (by rfl)]
        go_simp
        exact hK _ _ ⟨true, true, true, true, true, true, true, true, true, b9, rfl, rfl, fun _ => rfl, rfl⟩
      case inr.inr.inr.inr.inr.inr.inr.inr.inr.refl =>
        subst hi0
        obtain ⟨h8, h6, h0, h1, h2, h3, h4, h5, _⟩ := haf
        subst h8
        subst h6
        subst h0
        subst h1
        subst h2
        subst h3
        subst h4
        subst h5
        refine wpOpIn_step rfl (fun K hK => ?_)
        rw [if_pos (by rfl)]
        go_simp
        exact hK _ _ ⟨true, true, true, true, true, true, true, b7, true, true, rfl, rfl, fun _ => rfl, rfl⟩
    case hend =>
      rintro listed a W ⟨b0, b1, b2, b3, b4, b5, b6, b7, b8, b9, rfl, rfl, hcl, rfl⟩ hall
      have h9 : b9 = true := hall 9 (by decide)
      subst h9
      simp only [if_true]
      gi_wp2
      have e1 := EP1.out
      have e2 := EP2.out
      have q1 : p1.block = n₀ + 1 := by rw [e1]
      have q2 : p2.block = n₀ + 1 := by rw [e2]
      have hB2 : Below n₀ w ((Z.setCell p1 (.int .i64 1)).setCell p2 (.int .i64 1)).drew := ((hB.setCell (p := p1) (by omega) _).setCell (p := p2) (by omega) _).drew
      have hG2 : Boxed ((Z.setCell p1 (.int .i64 1)).setCell p2 (.int .i64 1)).drew (n₀ + 1 + 1) 52 (.slice A n c) :=
        (Below.heap_setCell _ _ _ _ (by omega)).trans ((Below.heap_setCell _ _ _ _ (by omega)).trans C2.out)
      have hS2 : Seen ((Z.setCell p1 (.int .i64 1)).setCell p2 (.int .i64 1)).drew A L := H.out.below (by rw [← EN.out]; exact hB2)
      refine ⟨⟨(((KeepsOthers.setCell _ _ _).trans (KeepsOthers.setCell _ _ _)).trans (KeepsOthers.drew _)).from _, ⟨fun _ => hG2, fun _ => hS2⟩, ⟨?_, ?_, hG2⟩, hB2⟩, ?_⟩
      · exact ((C0.out.other _ (by omega)).other _ (by omega))
      · exact D2.out
      · intro k o h1 _ h3
        exact (Below.heap_setCell _ _ _ k (by omega)).trans ((Below.heap_setCell _ _ _ k (by omega)).trans h3)
  case done =>
    rintro D xs Z hD hS ⟨⟨c0, c1, c2⟩, hB⟩ hK
    obtain ⟨ys, hy, rfl⟩ := hS
    rw [vals_edgesOf, hy] at c1
    have C1 := Lib.hid (c1.congr HE.out)
    have C0 := Lib.hid c0
    have hne : D ≠ n₀ := fun e => by subst e; rw [show Z.heap[D]? = _ from c0] at hK; cases hK
    have hKS := (setRow_other Z n₀ D (matC (wmx (adj L))) hne).trans hK
    have h2 := (mat_own (β := Unit) n₀ (fun _ => wmx (adj L))).putObj (s := ()) (.deferred none) (c0.stored (wmx (adj L))) hKS rfl
    clear c1 c0 hy
    gi_wp2_with (first | refine stepIn_load_mat rfl (.tmp 3) rfl _ _ rfl C1.out ?_ | refine stepIn_store_mat rfl (.tmp 2) (.tmp 18) rfl _ _ _ rfl rfl C0.out ?_)
    refine ⟨by simp, .inl ⟨_, _, rfl, run_takeDeferred hKS, ?_⟩⟩
    refine ⟨_, results_cell_row rfl _ _ _ _ _ _ _ rfl h2 mat_desc rfl (by rw [matC_size]; exact mat_info), ?_⟩
    refine ⟨rfl, ?_⟩
    rw [← EN.out]
    exact (below_setRow hB (Nat.le_refl _) _).trans (belowK_b (w := w) hle _ D _ _ (by have := EN.out; omega) hKS rfl rfl)
  case stop =>
    rintro D cd pre W _ _ h _
    exact h.elim
theorem steps_fn (A : Option Addr) (c : Nat) (L : List Int) (hg : IsGraph L) (w : World) (h : Seen w A L) :
    Calls Tryd.prog 75 #[.slice A L.length c] w (Mat1 w (wmx (adj L))) := callsIn_wide.1 (steps_in A c L hg w h)
end Go.Proofs.YtogmfbhnnnoipaaDoor
