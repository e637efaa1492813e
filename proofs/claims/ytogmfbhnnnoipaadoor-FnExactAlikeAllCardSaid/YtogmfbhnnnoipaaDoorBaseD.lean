/- Texts in one: Collect, ImplPart. -/
import Derived.RangeFuncBox
import Derived.OwnWalkIn
import Derived.Test.YtogmfbhnnnoipaaDoorBaseA
import Derived.Test.YtogmfbhnnnoipaaDoorBaseB

/- slices.Collect over the nodes of a set: the list of these nodes, in memory of its own. -/




namespace Go.Proofs.YtogmfbhnnnoipaaDoor
open Go.RowKit Go.Shelf
attribute [local go_sem] Oper.semAt_some
set_option linter.unusedVariables false

theorem appendIn_one {F : Fence} {n : Nat} {ops : Array Oper} {rest : List Oper} {o : Oper} {a : Act} {Q : Exit → Act → World → Prop} (hgd : o.guard = none) (s x : Operand)
    (ho : o.op = .call { callee := .builtin .append, args := #[s, x], argTypes := #[22, 22] }) (w : World) (B : Nat) (v : Value) (xs : List Int) (y : Int)
    (hs : a.eval s = v) (hx : a.eval x = .slice (some ⟨w.heap.size, 0, none⟩) 1 1) (hr : Row w B v xs) (hB : B ≤ w.heap.size) (hlen : xs.length ≤ 100000)
    (h : ∀ v' w', Row w' B v' (xs ++ [y]) → (w.alloc (.cells #[.int .i64 y] 3)).grownBy w' v.ownBlock → wpListIn F n Tryd.prog ops Q rest (a.put o.dst v') w') :
    wpListIn F n Tryd.prog ops Q (o :: rest) a (w.alloc (.cells #[.int .i64 y] 3)) := by
  obtain ⟨i0, hi, hz0, hz1, hz2⟩ := info_parts infoInt
  refine wpListIn_append_own (w.alloc (.cells #[.int .i64 y] 3)) hgd s x 22 ho B 3 i0 (.int .i64 0) 1 8 Tryd.underlying22 hi hz0 hz1 hz2 rfl (by decide) v xs.length (xs.map (Value.int .i64)) hs (World.ownsRow.alloc hr _)
    ⟨w.heap.size, 0, none⟩ 1 1 [.int .i64 y] hx rfl (cell_one_new w _ _) (by simp [Value.oneCell']) (by unfold maxLen; omega) (by omega) (by simp; omega) ?_
  intro v' w' hown hg _
  refine h v' w' ?_ hg
  unfold Row
  rw [List.length_append, List.map_append]
  exact hown

/-- Between two rounds: the box holds a list of the call's own: what has come. -/
def ColI (n₀ m s : Nat) (pre : List (Nd m s)) (W : World) : Prop := ∃ v, Boxed W n₀ 22 v ∧ Row W n₀ v (ints (valsN pre))
theorem colI_own (n₀ m s : Nat) : Own (ColI n₀ m s) := fun pre X Y row ⟨v, hb, hr⟩ hg hrow =>
  ⟨v, boxed_own _ _ (fun _ : Unit => _) () X Y row hb hg hrow, row_kept hr hg hrow⟩

set_option maxRecDepth 100000 in
set_option maxHeartbeats 2000000 in
theorem appendSeq_in (Bn m s : Nat) (hm : m ≤ 6) (hs : s < 2 ^ m) (w : World) (hB : Bn < w.heap.size) (hc : w.cell? ⟨Bn, 0, none⟩ = some (.int .i64 s)) (hT : Tab w) :
    CallsIn Fence.wide 5 Tryd.prog 129 #[.slice none 0 0, .func (.func 119) #[] #[.pointer (some ⟨Bn, 0, none⟩)]] w (Gave w (ints (nodesL s))) := by
  have h2 := hT.lt
  refine callsIn_of_wp_marks Tryd.func129 rfl trivial ?_ rfl
  simp only [Tryd.ntmps129, List.size_toArray, List.length_cons, List.length_nil, Nat.reduceAdd, Nat.reduceSub, Array.replicate_succ, Array.replicate_zero, List.push_toArray, List.append_toArray, List.nil_append, List.cons_append]
  gi_wp2
  obtain ⟨W, eW⟩ : ∃ W, W = w.alloc (.cells #[.slice none 0 0] 22) := ⟨_, rfl⟩
  have sW : W.heap.size = w.heap.size + 1 := by rw [eW]; simp
  have hBW : Below w.heap.size w W := by rw [eW]; exact (Below.refl _ w).alloc (Nat.le_refl _) _
  have b0 : Boxed W w.heap.size 22 (.slice none 0 0) := by rw [eW]; exact Boxed.new w _ _
  have r0 : Row W w.heap.size (.slice none 0 0) (ints (valsN ([] : List (Nd m s)))) := World.ownsRow_nil W w.heap.size 3 1
  rw [← eW]
  clear eW
  obtain ⟨n₀, en⟩ : ∃ n₀, n₀ = w.heap.size := ⟨_, rfl⟩
  rw [← en] at sW hBW b0 r0 hB h2 ⊢
  have EN := Lib.hid en
  have hle : n₀ ≤ w.heap.size := by omega
  have hcW : W.cell? ⟨Bn, 0, none⟩ = some (.int .i64 s) := (hBW.cell (p := ⟨Bn, 0, none⟩) hB).trans hc
  have hTW : Tab W := hT.below hBW (by omega)
  clear en hc hT
  refine wpIn_rangeFunc_ownF (α := Nd m s) rfl (by omega) (gf := 119) (lb := #[.pointer (some ⟨Bn, 0, none⟩)]) rfl trivial (enters_of Tryd.func119 (by kernel_rfl) rfl)
    (nodes_stops _ Bn m s n₀ (by omega) hm hs W (by omega) hcW hTW (by omega) (by omega)) belowK_t (belowK_b (by omega)) (Below.refl _ _) (fun _ => rfl)
    (fun pre Z => ColI n₀ m s pre Z ∧ Below n₀ w Z) (fun _ _ _ => False)
    (OwnFrom.and (Own.from (colI_own n₀ m s) _) (ownFrom_below hle (by omega))) (fun _ _ _ _ _ hs _ _ => hs)
    ⟨⟨_, b0, r0⟩, hBW⟩
    (fun x => { tmps := #[.slice none 0 0, .func (.func 119) #[] #[.pointer (some ⟨Bn, 0, none⟩)], .pointer (some ⟨n₀, 0, none⟩), undef, .slice none 0 0, .int .i64 (x.1 : Int), .func (.func 119) #[] #[.pointer (some ⟨Bn, 0, none⟩)],
      .int .i64 (x.1 : Int), undef, undef, undef, undef, undef], defers := [] }) ?assign ?body ?done ?stop
  case assign =>
    intro l x W K hK
    gi_wp2
    exact hK
  case body =>
    rintro l pre x Z ⟨⟨v, c0, hr⟩, hB⟩ hlen
    have hl6 : (ints (valsN pre)).length ≤ 100000 := by rw [ints_length, valsN_length]; omega
    have hvs : ints (valsN (pre ++ [x])) = ints (valsN pre) ++ [((x.1 : Nat) : Int)] := by rw [valsN_snoc]; simp [ints]
    obtain ⟨y, ey⟩ : ∃ y : Nat, y = x.1 := ⟨_, rfl⟩
    rw [← ey] at hvs
    rw [← ey]
    have HVS := Lib.hid hvs
    have HLL := Lib.hid hl6
    have C0 := Lib.hid c0
    have HR := Lib.hid hr
    have hnZ : n₀ ≤ Z.heap.size := by have := hB.size; omega
    have z0 := c0.cell
    clear hvs hl6 c0 hr ey
    gi_wp2_with (gi_at_builtin; refine appendIn_one rfl (.tmp 8) (.tmp 10) rfl Z n₀ v (ints (valsN pre)) y rfl rfl HR.out hnZ HLL.out ?_; intro v' w1 hr' hg'
                 obtain ⟨k1, k2, k3, k4, k5⟩ := C0.out.appended (by decide) HR.out hnZ (Nat.le_refl _) hr' hg'
                 obtain ⟨g, cap, rfl⟩ : ∃ g cap, v' = .slice (some ⟨g, 0, none⟩) ((ints (valsN pre)).length + 1) cap := by
                   have h0 := hr'
                   unfold Row at h0
                   rw [List.length_append] at h0
                   exact ownsRow_succ h0
                 have y0 := k1.cell
                 have y1 := k1.frozen
                 have K2 := Lib.hid k2
                 have K3 := Lib.hid k3
                 have K4 := Lib.hid k4
                 have K5 := Lib.hid k5
                 clear hr' hg' k1 k2 k3 k4 k5)
    refine ⟨K4.out, K5.out, ⟨_, K2.out, ?_⟩, hB.trans (K5.out.mono (Nat.le_refl _))⟩
    rw [HVS.out]
    exact K3.out
  case done =>
    rintro D xs Z hD hS ⟨⟨v, c0, hr⟩, hB⟩ hK
    have z0 := c0.cell
    have HS := Lib.hid hS
    have HR := Lib.hid hr
    clear hS hr
    gi_wp2
    refine ⟨by simp, .inl ⟨_, _, rfl, run_takeDeferred hK, ?_⟩⟩
    refine ⟨_, results_tmp rfl _ _ _, ?_⟩
    refine ⟨_, rfl, ?_, ?_⟩
    · rw [← EN.out]
      have h0 := ownsRow_putObj HR.out (.deferred none) hK rfl
      rw [HS.out] at h0
      exact h0
    · rw [← EN.out]
      exact hB.trans (belowK_b (w := w) hle Z D _ _ (by have := EN.out; omega) hK rfl rfl)
  case stop =>
    rintro D cd pre W _ _ h _
    exact h.elim

set_option maxHeartbeats 1000000 in
theorem collect_any (Bn m s : Nat) (hm : m ≤ 6) (hs : s < 2 ^ m) (w : World) (hB : Bn < w.heap.size) (hc : w.cell? ⟨Bn, 0, none⟩ = some (.int .i64 s)) (hT : Tab w) :
    Calls Tryd.prog 112 #[.func (.func 119) #[] #[.pointer (some ⟨Bn, 0, none⟩)]] w (Gave w (ints (nodesL s))) := by
  have H := Lib.hid (callsIn_wide.1 (appendSeq_in Bn m s hm hs w hB hc hT))
  clear hc hT
  go_enter Tryd.func112, Tryd.ntmps112
  go_wp2_with fail
  refine H.out.mono ?_
  rintro e w1 ⟨v, rfl, r, b⟩
  go_wp2
  go_ret
  exact ⟨v, rfl, r, b⟩
end Go.Proofs.YtogmfbhnnnoipaaDoor

/- The program's part, by a range over the pairs of the nodes kept. -/




namespace Go.Proofs.YtogmfbhnnnoipaaDoor
open Go.RowKit Go.Shelf
attribute [local go_sem] Oper.semAt_some
set_option linter.unusedVariables false

/-- Between two rounds: the box of the nodes kept, the list's box; the list holds the edges that have come. -/
def PaI (M m : Nat) (K : Value) (L : List Int) (ns : List Nat) (pre : List (Pr m)) (W : World) : Prop :=
  Boxed W M 22 K ∧ Boxed W (M + 1 + 1) 52 (.slice (some ⟨M + 1, 0, none⟩) m m) ∧ Row W M (.slice (some ⟨M + 1, 0, none⟩) m m) (ints (lrun m id (keptIn L ns (vals pre))))
theorem paI_own (M m : Nat) (K : Value) (L : List Int) (ns : List Nat) : Own (PaI M m K L ns) := fun s X Y row hs hg hr =>
  ⟨boxed_own _ _ (fun _ : Unit => _) () X Y row hs.1 hg hr, boxed_own _ _ (fun _ : Unit => _) () X Y row hs.2.1 hg hr, row_kept hs.2.2 hg hr⟩

set_option maxRecDepth 100000 in
set_option maxHeartbeats 4000000 in
theorem implPart_in (A : Option Addr) (c : Nat) (L : List Int) (hg : IsGraph L) (s : Nat) (hs : s < 2 ^ L.length) (w : World) (h : Seen w A L) (hT : Tab w) :
    CallsIn Fence.wide 7 Tryd.prog 121 #[.slice A L.length c, .int .i64 s] w (Gave w (ints (lrun (nodesL s).length id (keptIn L (nodesL s) (rows (nodesL s).length))))) := by
  have h1 := hg.1
  have h6 := hg.2.1
  have h2 := hT.lt
  obtain ⟨blk, off, hA0, hbl0, _⟩ := h 0 (by omega)
  subst hA0
  have hnl := nodes_lt hs
  obtain ⟨n, hn⟩ : ∃ n, n = L.length := ⟨_, rfl⟩
  have hcol : Calls Tryd.prog 112 #[.func (.func 119) #[] #[.pointer (some ⟨w.heap.size + 1, 0, none⟩)]] ((w.alloc (.cells #[.slice (some ⟨blk, off, none⟩) n c] 52)).alloc (.cells #[.int .i64 s] 3)) (Gave ((w.alloc (.cells #[.slice (some ⟨blk, off, none⟩) n c] 52)).alloc (.cells #[.int .i64 s] 3)) (ints (nodesL s))) := by
    have hb := Boxed.new (w.alloc (.cells #[.slice (some ⟨blk, off, none⟩) n c] 52)) 3 (.int .i64 s)
    rw [World.size_alloc] at hb
    refine collect_any (w.heap.size + 1) L.length s h6 hs _ (by simp) hb.cell ?_
    exact (hT.below ((Below.refl w.heap.size w).alloc (Nat.le_refl _) _) (by omega)).below ((Below.refl w.heap.size _).alloc (by simp) _) (by omega)
  have HCOL := Lib.hid hcol
  obtain ⟨ns, ens⟩ : ∃ ns, ns = nodesL s := ⟨_, rfl⟩
  have hm6 : ns.length ≤ 6 := by rw [ens]; exact nodes_length s
  rw [← ens] at hnl HCOL ⊢
  obtain ⟨m, em⟩ : ∃ m, m = ns.length := ⟨_, rfl⟩
  rw [← em] at hm6 ⊢
  rw [← hn] at h1 h6 ⊢
  have hil : (ints ns).length = m := by rw [ints_length, em]
  have hmk := run_make_graph m (by omega)
  have hms : ∀ x, (madeW x m).heap.size = x.heap.size + 1 := fun x => madeW_size x m
  have HIL := Lib.hid hil
  have HN := Lib.hid hn
  have HEM := Lib.hid em
  have H := Lib.hid h
  have HG := Lib.hid hg
  have HNL := Lib.hid hnl
  clear h hg hn hs hT ens em hcol hil hnl
  refine callsIn_of_wp_marks Tryd.func121 rfl trivial ?_ rfl
  simp only [Tryd.ntmps121, List.size_toArray, List.length_cons, List.length_nil, Nat.reduceAdd, Nat.reduceSub, Array.replicate_succ, Array.replicate_zero, List.push_toArray, List.append_toArray, List.nil_append, List.cons_append]
  gi_wp2_with (first
    | (refine ⟨trivial, ?_⟩; gi_at_call 97; refine (callsIn_wide.2 (nodesIn_any s _)).mono ?_; rintro e w' ⟨rfl, rfl⟩)
    | (refine ⟨trivial, ?_⟩; gi_at_call 112; refine (callsIn_wide.2 HCOL.out).mono ?_; rintro e w2 ⟨kv, rfl, kr, kb⟩; obtain ⟨An, cn, rfl, hsn⟩ := kr.seen; rw [HIL.out]; have KB := Lib.hid kb; have SN := Lib.hid hsn; clear kr kb hsn
       have X0 : Boxed (madeW (w2.alloc (.cells #[.slice An m cn] 22)) m) w2.heap.size 22 (.slice An m cn) := (Boxed.new w2 22 (.slice An m cn)).alloc _
       have x0 : ∀ o, ((madeW (w2.alloc (.cells #[.slice An m cn] 22)) m).alloc o).cell? ⟨w2.heap.size, 0, none⟩ = some (.slice An m cn) := fun o => (X0.alloc o).cell)
    | (refine ⟨trivial, ?_⟩; gi_at_call 109; refine (callsIn_wide.2 (pairs_any m _)).mono ?_; rintro e w' ⟨rfl, rfl⟩))
  obtain ⟨M, eM⟩ : ∃ M, M = w2.heap.size := ⟨_, rfl⟩
  have R0 := madeW_row (w2.alloc (.cells #[.slice An m cn] 22)) m (by omega)
  have M0 := madeW_below (w2.alloc (.cells #[.slice An m cn] 22)) m
  have S0 := hms (w2.alloc (.cells #[.slice An m cn] 22))
  clear hmk hms x0
  obtain ⟨w3, e3⟩ : ∃ w3, w3 = madeW (w2.alloc (.cells #[.slice An m cn] 22)) m := ⟨_, rfl⟩
  rw [← e3] at R0 M0 S0 X0 ⊢
  rw [World.size_alloc] at R0 M0 S0
  have hB1 : Below w2.heap.size w2 w3 := ((Below.refl _ w2).alloc (Nat.le_refl _) _).trans (M0.mono (by omega))
  clear e3
  rw [← eM] at R0 M0 S0 X0 hB1 ⊢
  obtain ⟨W, eW⟩ : ∃ W, W = (w3.alloc (.cells #[.slice (some ⟨M + 1, 0, none⟩) m m] 52)).alloc (.cells #[.int .i64 m] 3) := ⟨_, rfl⟩
  have sW : W.heap.size = M + 1 + 1 + 1 + 1 := by rw [eW]; simp [S0]
  have hBW : Below M w2 W := by rw [eW]; exact (hB1.alloc (by omega) _).alloc (by simp; omega) _
  have b0 : Boxed W M 22 (.slice An m cn) := by rw [eW]; exact (X0.alloc _).alloc _
  have b2 : Boxed W (M + 1 + 1) 52 (.slice (some ⟨M + 1, 0, none⟩) m m) := by
    rw [eW]; have h := Boxed.new w3 52 (.slice (some ⟨M + 1, 0, none⟩) m m); rw [S0] at h; exact h.alloc _
  have b3 : W.cell? ⟨M + 1 + 1 + 1, 0, none⟩ = some (.int .i64 m) := by
    rw [eW]; have h := Boxed.new (w3.alloc (.cells #[.slice (some ⟨M + 1, 0, none⟩) m m] 52)) 3 (.int .i64 m); rw [World.size_alloc, S0] at h; exact h.cell
  have r0 : Row W M (.slice (some ⟨M + 1, 0, none⟩) m m) (ints (lrun m id (keptIn L ns (vals ([] : List (Pr m)))))) := by
    rw [eW]; exact ((R0.mono (by omega)).alloc _).alloc _
  rw [← eW]
  clear eW S0 X0 R0 M0 hB1
  have hkb := KB.out
  obtain ⟨w1, ew1⟩ : ∃ w1, w1 = (w.alloc (.cells #[.slice (some ⟨blk, off, none⟩) n c] 52)).alloc (.cells #[.int .i64 s] 3) := ⟨_, rfl⟩
  have s1 : w1.heap.size = w.heap.size + 1 + 1 := by rw [ew1]; simp
  have hw1 : Below w.heap.size w w1 := by rw [ew1]; exact ((Below.refl _ w).alloc (Nat.le_refl _) _).alloc (by simp) _
  have bg1 : Boxed w1 w.heap.size 52 (.slice (some ⟨blk, off, none⟩) n c) := by rw [ew1]; exact (Boxed.new w _ _).alloc _
  rw [← ew1] at hkb HCOL KB
  have hw2 : Below w.heap.size w w2 := hw1.trans (hkb.mono hw1.size)
  have bg2 : Boxed w2 w.heap.size 52 (.slice (some ⟨blk, off, none⟩) n c) := (hkb.block w.heap.size (by omega)).trans bg1
  have hM : w.heap.size + 1 + 1 ≤ M := by rw [eM, ← s1]; exact hkb.size
  clear hkb HCOL KB ew1 bg1
  obtain ⟨n₀, en⟩ : ∃ n₀, n₀ = w.heap.size := ⟨_, rfl⟩
  rw [← en] at hw1 hw2 bg2 hM hbl0 s1 ⊢
  have EN := Lib.hid en
  have EM := Lib.hid eM
  have SW := Lib.hid sW
  have HW2 := Lib.hid hw2
  have BG2 := Lib.hid bg2
  have hle : M ≤ w2.heap.size := by omega
  have hleW : M + 1 + 1 + 1 < W.heap.size := by omega
  clear en eM sW hw1 hw2 s1 bg2
  refine wpIn_rangeFunc_ownF (α := Pr m) rfl (by omega) (gf := 128) (lb := #[.pointer (some ⟨M + 1 + 1 + 1, 0, none⟩)]) rfl trivial (enters_of Tryd.func128 (by kernel_rfl) rfl)
    (pairs_stops Fence.wide _ trivial rfl (by omega) (M + 1 + 1 + 1) m hm6 W (by omega) b3) (fun _ _ => trivial) (fun _ _ _ _ _ _ _ _ => trivial) (Below.refl _ _) (fun _ => rfl)
    (fun pre Z => PaI M m (.slice An m cn) L ns pre Z ∧ Below M w2 Z) (fun _ _ _ => False)
    (OwnFrom.and (Own.from (paI_own M m _ L ns) _) (ownFrom_below hle (by omega))) (fun _ _ _ _ _ hs _ _ => hs)
    ⟨⟨b0, b2, r0⟩, hBW⟩
    (fun x => { tmps := #[.slice (some ⟨blk, off, none⟩) n c, .int .i64 s, .pointer (some ⟨n₀, 0, none⟩), undef, .slice none 0 0, .pointer (some ⟨M, 0, none⟩), .pointer (some ⟨M + 1 + 1, 0, none⟩), .int .i64 (x.1.1 : Int), .int .i64 (x.1.2 : Int), .int .i64 s,
      .func (.func 119) #[] #[.pointer (some ⟨n₀ + 1, 0, none⟩)], .slice An m cn, .slice An m cn, .int .i64 m, .slice (some ⟨M + 1, 0, none⟩) m m, .slice An m cn, .int .i64 m,
      .func (.func 128) #[] #[.pointer (some ⟨M + 1 + 1 + 1, 0, none⟩)], .int .i64 (x.1.1 : Int), .int .i64 (x.1.2 : Int), undef, undef, undef, undef, undef, undef, undef, undef, undef, undef, undef, undef, undef, undef, undef], defers := [] }) ?assign ?body ?done ?stop
  case assign =>
    intro l x Z K hK
    gi_wp2
    exact hK
  case body =>
    rintro l pre x Z ⟨⟨c0, c2, hr⟩, hB⟩ hlen
    have hmem : ∀ e ∈ keptIn L ns (vals pre), e.1 < 6 ∧ e.2 < 6 := fun e he => by
      unfold keptIn at he
      rw [List.mem_filter] at he
      simp only [vals, List.mem_map] at he
      obtain ⟨⟨q, _, rfl⟩, _⟩ := he
      have := q.2
      omega
    have hsm : ∀ y ∈ lrun m id (keptIn L ns (vals pre)), y < 1048576 := fun y hy => Nat.lt_trans (lrun_lt m id _ (fun e he => hmem e he) y hy) (by decide)
    have hL : (lrun m id (keptIn L ns (vals pre))).length = m := lrun_length _ _ _
    have hst := keptIn_snoc L ns (vals pre) x.1
    rw [← vals_snoc] at hst
    obtain ⟨⟨u, v⟩, hu, hv⟩ := x
    dsimp only at hu hv hst ⊢
    have ha := at_lt HNL.out (show u < ns.length by have := HEM.out; omega)
    have hb := at_lt HNL.out (show v < ns.length by have := HEM.out; omega)
    obtain ⟨blk', off', rfl, hbl', hcP⟩ := SN.out u (by rw [HIL.out]; omega)
    obtain ⟨blk2, off2, e2b, hbl2, hcQ⟩ := SN.out v (by rw [HIL.out]; omega)
    obtain ⟨rfl, rfl⟩ : blk' = blk2 ∧ off' = off2 := by injection e2b with e; injection e with e1 e2; exact ⟨e1, e2⟩
    rw [ints_at (show u < ns.length by have := HEM.out; omega)] at hcP
    rw [ints_at (show v < ns.length by have := HEM.out; omega)] at hcQ
    unfold bt at hst
    obtain ⟨a, eaa⟩ : ∃ a, a = at_ ns u := ⟨_, rfl⟩
    obtain ⟨b, ebb⟩ : ∃ b, b = at_ ns v := ⟨_, rfl⟩
    rw [← eaa] at hcP ha hst
    rw [← ebb] at hcQ hb hst
    obtain ⟨blk1, off1, hA1, hbl1, hc1⟩ := H.out a ha
    obtain ⟨rfl, rfl⟩ : blk = blk1 ∧ off = off1 := by injection hA1 with e; injection e with e1 e2; exact ⟨e1, e2⟩
    have hin := (HG.out.2.2 a ha).1
    have hX := ent_int hin
    have hXl := ent_lt hin
    have h64 := two_le (n := L.length) HG.out.2.1
    obtain ⟨X, eX⟩ : ∃ X, X = ent L a := ⟨_, rfl⟩
    rw [← eX] at hX hXl hst
    rw [hX] at hc1
    have hXs : X < 1048576 := by omega
    have hb40 : b < 40 := by have := HG.out.2.1; omega
    have han : a < n := by have := HN.out; omega
    obtain ⟨T, eT⟩ : ∃ T, T = lrun m id (keptIn L ns (vals pre)) := ⟨_, rfl⟩
    rw [← eT] at hsm hL hr
    have hPw : Z.cell? ⟨blk', off' + u, none⟩ = some (.int .i64 a) := (hB.cell (p := ⟨blk', off' + u, none⟩) (by rw [EM.out]; exact hbl')).trans hcP
    have hQw : Z.cell? ⟨blk', off' + v, none⟩ = some (.int .i64 b) := (hB.cell (p := ⟨blk', off' + v, none⟩) (by rw [EM.out]; exact hbl')).trans hcQ
    have hGw : Z.drew.cell? ⟨blk, off + a, none⟩ = some (.int .i64 X) := (hB.cell (p := ⟨blk, off + a, none⟩) (by show blk < M; omega)).trans ((HW2.out.cell (p := ⟨blk, off + a, none⟩) hbl0).trans hc1)
    have hgb : Boxed Z n₀ 52 (.slice (some ⟨blk, off, none⟩) n c) := (hB.block n₀ (by omega)).trans BG2.out
    have zg := hgb.cell
    have hi1 : (0 : Int) ≤ (u : Int) ∧ (u : Int) < (m : Int) := by omega
    have hi2 : (0 : Int) ≤ (v : Int) ∧ (v : Int) < (m : Int) := by omega
    have z0 := c0.cell
    have z2 : Z.drew.cell? ⟨M + 1 + 1, 0, none⟩ = some (.slice (some ⟨M + 1, 0, none⟩) m m) := c2.cell
    have ST := Lib.hid hst
    have ET := Lib.hid eT
    have C0 := Lib.hid c0
    have C2 := Lib.hid c2
    have HR := Lib.hid hr
    have HL := Lib.hid hL
    have HS := Lib.hid hsm
    have huv : u ≠ v := by omega
    have hum : u < m := by omega
    have HUV := Lib.hid huv
    clear hst c0 c2 hr hL hsm hmem eT eaa ebb hcP hcQ hbl' hbl2 e2b hA1 hbl1 hc1 hin hX hXl h64 eX hgb huv
    by_cases hbit : X / 2 ^ b % 2 = 1
    · have hbb : (X / 2 ^ b % 2 == 1) = true := by simp [hbit]
      have hs2 := ST.out
      rw [if_pos hbit] at hs2
      have HS2 := Lib.hid hs2
      clear hbit hs2
      gi_wp2
      refine wpIn_tail_round 9 (by kernel_rfl) (by kernel_rfl) (by kernel_rfl) ?_
      simp only [List.take_succ_cons, List.take_zero, List.drop_succ_cons, List.drop_zero]
      repeat still_step
      refine wpStill_nil ?_
      gi_wp2_with (first
        | (refine ⟨trivial, ?_⟩; gi_at_call 98; refine (CallsIn.inRound l (callsIn_wide.2 (edge_any blk off n c a b X _ hXs han hb40 hGw))).mono ?_; rw [hbb]; rintro e w' ⟨rfl, rfl⟩)
        | (refine ⟨trivial, ?_⟩; gi_at_call 132; refine (CallsIn.inRound l (callsIn_wide.2 (link_any M (M + 1) m m T u v Z.drew hm6 HL.out hum hv HUV.out HS.out HR.out))).mono ?_; rintro e W3 ⟨⟨uu, rfl⟩, hr3, hg3⟩; have G3 := Lib.hid hg3; have R3 := Lib.hid hr3; clear hg3 hr3))
      have gz : Z.grownBy W3 (some (M + 1)) := World.grownBy.trans (grown_drew (World.grownBy.refl Z (some (M + 1)))) G3.out
      have hB3 : Below M w2 W3 := hB.grown gz (by have := hB.size; omega) (fun j e => by cases e; omega)
      refine ⟨KeepsOthers.of_grownBy gz ?_, trivial, ⟨C0.out.kept gz (ne_some (by omega)), C2.out.kept gz (ne_some (by omega)), ?_⟩, hB3⟩
      · intro j o ej hj
        cases ej
        rcases HR.out.2 with ⟨hv0, _⟩ | ⟨g, cap, cur, hv0, _, hgb, _⟩
        · cases hv0
        · cases hv0
          rw [hgb] at hj
          cases hj
          rfl
      · rw [HS2.out, lrun_snoc, ← ET.out]; exact R3.out
    · have hbb : (X / 2 ^ b % 2 == 1) = false := by simp [hbit]
      have hs2 := ST.out
      rw [if_neg hbit, List.append_nil] at hs2
      have HS2 := Lib.hid hs2
      clear hbit hs2
      gi_wp2
      refine wpIn_tail_round 9 (by kernel_rfl) (by kernel_rfl) (by kernel_rfl) ?_
      simp only [List.take_succ_cons, List.take_zero, List.drop_succ_cons, List.drop_zero]
      repeat still_step
      refine wpStill_nil ?_
      gi_wp2_with (refine ⟨trivial, ?_⟩; gi_at_call 98; refine (CallsIn.inRound l (callsIn_wide.2 (edge_any blk off n c a b X _ hXs han hb40 hGw))).mono ?_; rw [hbb]; rintro e w' ⟨rfl, rfl⟩)
      refine ⟨KeepsOthers.drew _, trivial, ⟨C0.out, C2.out, ?_⟩, hB.drew⟩
      rw [HS2.out, ← ET.out]; exact HR.out
  case done =>
    rintro D xs Z hD hS ⟨⟨c0, c2, hr⟩, hB⟩ hK
    have z2 := c2.cell
    have HS := Lib.hid hS
    have HR := Lib.hid hr
    clear hS hr
    gi_wp2
    refine ⟨by simp, .inl ⟨_, _, rfl, run_takeDeferred hK, ?_⟩⟩
    refine ⟨_, results_tmp rfl _ _ _, ?_⟩
    refine ⟨_, rfl, ?_, ?_⟩
    · rw [← EN.out]
      have h0 := ownsRow_putObj HR.out (.deferred none) hK rfl
      rw [HS.out] at h0
      exact Row.mono h0 (by omega)
    · rw [← EN.out]
      have h0 : Below M w2 (Z.putObj D (.deferred none)) := hB.trans (belowK_b (w := w2) hle Z D _ _ (by have := SW.out; have := EM.out; omega) hK rfl rfl)
      exact HW2.out.trans (h0.mono (by omega))
  case stop =>
    rintro D cd pre Z _ _ h _
    exact h.elim

end Go.Proofs.YtogmfbhnnnoipaaDoor
