/- Which sets of nodes are watching: the program. -/
import Derived.Test.YtcblcifnpgmibaaDoorSetMath
import Derived.Test.YtcblcifnpgmibaaDoorOtherIn
import Derived.Test.YtcblcifnpgmibaaDoorBaseA
namespace Go.Proofs.YtcblcifnpgmibaaDoor
open Go.RowKit Go.Shelf
attribute [local go_sem] Oper.semAt_some
set_option linter.unusedVariables false
set_option maxRecDepth 100000

theorem metTo_wide (L : List Int) (s k : Nat) : metTo L s k = wide L s ((List.range k).filter (inS s)) := by
  induction k with
  | zero => rfl
  | succ k ih =>
    rw [metTo_succ, List.range_succ, List.filter_append, ih]
    unfold metStep
    cases h : inS s k with
    | false => simp [h]
    | true =>
      rw [if_pos rfl, show [k].filter (inS s) = [k] by simp [h], wide_snoc]
theorem nodes_range {s n : Nat} (hs : s < 2 ^ n) (hn : n ≤ 6) : nodesL s = (List.range n).filter (inS s) := by
  have h1 : nodesL s = (List.range 6).filter (inS s) := by
    unfold nodesL
    congr 1
    funext v
    rw [Bool.eq_iff_iff, beq_iff_eq, inS_iff]
  rw [h1]
  obtain ⟨d, hd⟩ : ∃ d, n + d = 6 := ⟨6 - n, by omega⟩
  rw [← hd]
  clear hd h1 hn
  induction d with
  | zero => rfl
  | succ d ih =>
    rw [← Nat.add_assoc, List.range_succ, List.filter_append, ih]
    have : inS s (n + d) = false := by
      unfold inS
      exact Nat.testBit_lt_two_pow (Nat.lt_of_lt_of_le hs (Nat.pow_le_pow_right (by omega) (by omega)))
    simp [this]
theorem watB_wide {L : List Int} {s : Nat} (hs : s < 2 ^ L.length) (h6 : L.length ≤ 6) : watB L s = (wide L s (nodesL s) == 2 ^ L.length - 1) := by
  unfold watB
  rw [metTo_wide, nodes_range hs h6]

/-- Between two rounds: the graph's box; what is met so far. -/
def WaI (n₀ n s : Nat) (S : Value) (L : List Int) (pre : List (Nd n s)) (W : World) : Prop :=
  Boxed W n₀ 36 S ∧ Boxed W (n₀ + 1) 3 (.int .i64 (wide L s (valsN pre) : Nat))
theorem waI_own (n₀ n s : Nat) (S : Value) (L : List Int) : Own (WaI n₀ n s S L) := fun pre X Y row hs hg hr =>
  ⟨boxed_own _ _ (fun _ : Unit => _) () X Y row hs.1 hg hr, boxed_own _ _ (fun _ : Unit => _) () X Y row hs.2 hg hr⟩

set_option maxHeartbeats 4000000 in
theorem isWatching_in (A : Option Addr) (c : Nat) (L : List Int) (hg : IsGraph L) (s : Nat) (hs : s < 2 ^ L.length) (w : World) (h : Seen w A L) (hT : Tab w) :
    CallsIn Fence.wide 6 Tryd.prog 60 #[.slice A L.length c, .int .i64 s] w fun e w' => e = .returned (.bool (watB L s)) ∧ Below w.heap.size w w' := by
  have h1 := hg.1
  have h6 := hg.2.1
  have h2 := hT.lt
  have hW := watB_wide hs h6
  obtain ⟨blk, off, hA0, hbl0, _⟩ := h 0 (by omega)
  subst hA0
  have hp := two_pos L.length
  obtain ⟨Q, hQ⟩ : ∃ Q, Q + 1 = 2 ^ L.length := ⟨2 ^ L.length - 1, by omega⟩
  rw [show 2 ^ L.length - 1 = Q by omega] at hW
  obtain ⟨n, hn⟩ : ∃ n, n = L.length := ⟨_, rfl⟩
  rw [← hn] at h1 h6 hs hQ ⊢
  have HAL := Lib.hid (fun w => all_any (some ⟨blk, off, none⟩) n c Q h6 hQ w)
  have HN := Lib.hid hn
  have H := Lib.hid h
  have HG := Lib.hid hg
  have HT := Lib.hid hT
  have HW := Lib.hid hW
  have HQ := Lib.hid hQ
  have HL2 : Hid (∀ v, v < L.length → ent L v < 2 ^ L.length) := Lib.hid fun v hv => ent_lt (hg.2.2 v hv).1
  clear h hg hn hT hW hQ hp
  refine callsIn_of_wp_marks Tryd.func60 rfl trivial ?_ rfl
  simp only [Tryd.ntmps60, List.size_toArray, List.length_cons, List.length_nil, Nat.reduceAdd, Nat.reduceSub, Array.replicate_succ, Array.replicate_zero, List.push_toArray, List.append_toArray, List.nil_append, List.cons_append]
  gi_wp2_with (refine ⟨trivial, ?_⟩; gi_at_call 67; refine (callsIn_wide.2 (nodesIn_any s _)).mono ?_; rintro e w' ⟨rfl, rfl⟩)
  obtain ⟨W, eW⟩ : ∃ W, W = ((w.alloc (.cells #[.slice (some ⟨blk, off, none⟩) n c] 36)).alloc (.cells #[.int .i64 s] 3)).alloc (.cells #[.int .i64 s] 3) := ⟨_, rfl⟩
  have sW : W.heap.size = w.heap.size + 1 + 1 + 1 := by rw [eW]; simp
  have hBW : Below w.heap.size w W := by rw [eW]; exact (((Below.refl _ w).alloc (Nat.le_refl _) _).alloc (by simp) _).alloc (by simp; omega) _
  have b0 : Boxed W w.heap.size 36 (.slice (some ⟨blk, off, none⟩) n c) := by rw [eW]; exact ((Boxed.new w _ _).alloc _).alloc _
  have b1 : Boxed W (w.heap.size + 1) 3 (.int .i64 (wide L s (valsN ([] : List (Nd n s))) : Nat)) := by
    rw [eW]; have h := Boxed.new (w.alloc (.cells #[.slice (some ⟨blk, off, none⟩) n c] 36)) 3 (.int .i64 s); rw [World.size_alloc] at h; exact h.alloc _
  have b2 : W.cell? ⟨w.heap.size + 1 + 1, 0, none⟩ = some (.int .i64 s) := by
    rw [eW]; have h := Boxed.new ((w.alloc (.cells #[.slice (some ⟨blk, off, none⟩) n c] 36)).alloc (.cells #[.int .i64 s] 3)) 3 (.int .i64 s); rw [World.size_alloc, World.size_alloc] at h; exact h.cell
  rw [← eW]
  clear eW
  obtain ⟨n₀, en⟩ : ∃ n₀, n₀ = w.heap.size := ⟨_, rfl⟩
  rw [← en] at sW hBW b0 b1 b2 h2 hbl0 ⊢
  have hle : n₀ ≤ w.heap.size := by omega
  have hTW : Tab W := HT.out.below hBW (by omega)
  have EN := Lib.hid en
  have SW := Lib.hid sW
  clear en sW
  refine wpIn_rangeFunc_ownF (α := Nd n s) rfl (by omega) (gf := 75) (lb := #[.pointer (some ⟨n₀ + 1 + 1, 0, none⟩)]) rfl trivial (enters_of Tryd.func75 (by kernel_rfl) rfl)
    (nodes_stops _ (n₀ + 1 + 1) n s n₀ (by omega) h6 hs W (by have := SW.out; omega) b2 hTW (by omega) (by have := SW.out; omega)) belowK_t (belowK_b (by have := SW.out; omega)) (Below.refl _ _) (fun _ => rfl)
    (fun pre Z => WaI n₀ n s (.slice (some ⟨blk, off, none⟩) n c) L pre Z ∧ Below n₀ w Z) (fun _ _ _ => False)
    (OwnFrom.and (Own.from (waI_own n₀ n s _ L) _) (ownFrom_below hle (by have := SW.out; omega))) (fun _ _ _ _ _ hs _ _ => hs)
    ⟨⟨b0, b1⟩, hBW⟩
    (fun x => { tmps := #[.slice (some ⟨blk, off, none⟩) n c, .int .i64 s, .pointer (some ⟨n₀, 0, none⟩), undef, .bool false, .pointer (some ⟨n₀ + 1, 0, none⟩), .int .i64 (x.1 : Int), .int .i64 s, .int .i64 s,
      .func (.func 75) #[] #[.pointer (some ⟨n₀ + 1 + 1, 0, none⟩)], .int .i64 (x.1 : Int), undef, undef, undef, undef, undef, undef, undef, undef, undef, undef], defers := [] }) ?assign ?body ?done ?stop
  case assign =>
    intro l x Z K hK
    gi_wp2
    exact hK
  case body =>
    rintro l pre x Z ⟨⟨d0, d1⟩, hB⟩ hlen
    obtain ⟨v, hvn, hvq⟩ := x
    dsimp only at hvn ⊢
    have hvL : v < L.length := by have := HN.out; omega
    obtain ⟨blk1, off1, hA1, hbl1, hc1⟩ := H.out v hvL
    obtain ⟨rfl, rfl⟩ : blk = blk1 ∧ off = off1 := by injection hA1 with e; injection e with e1 e2; exact ⟨e1, e2⟩
    have hin := (HG.out.2.2 v hvL).1
    have hX := ent_int hin
    have hXl := ent_lt hin
    have h64 := two_le (n := L.length) HG.out.2.1
    have hr64 : wide L s (valsN pre) < 2 ^ n := wide_lt hs _ (fun u hu => by
      simp only [valsN, List.mem_map] at hu
      obtain ⟨q, _, rfl⟩ := hu
      have h5 := HL2.out q.1 (by have := q.2.1; have := HN.out; omega)
      rw [← HN.out] at h5
      exact h5)
    have hw2 : wide L s (valsN (pre ++ [(⟨v, hvn, hvq⟩ : Nd n s)])) = wide L s (valsN pre) ||| ent L v := by rw [valsN_snoc, wide_snoc]
    obtain ⟨X, eX⟩ : ∃ X, X = ent L v := ⟨_, rfl⟩
    obtain ⟨r, er⟩ : ∃ r, r = wide L s (valsN pre) := ⟨_, rfl⟩
    rw [← eX] at hX hXl hw2
    rw [← er] at hr64 hw2 d1
    rw [hX] at hc1
    have hn64 := two_le h6
    have f1 := i64_or_nat r X (by omega) (by omega)
    obtain ⟨r2, er2⟩ : ∃ r2, r2 = r ||| X := ⟨_, rfl⟩
    rw [← er2] at f1 hw2
    have hcv : Z.cell? ⟨blk, off + v, none⟩ = some (.int .i64 X) := (hB.cell (p := ⟨blk, off + v, none⟩) hbl0).trans hc1
    have z0 := d0.cell
    have z1 := d1.cell
    have hi1 : (0 : Int) ≤ (v : Int) ∧ (v : Int) < (n : Int) := by omega
    obtain ⟨w2, ew2⟩ : ∃ w2, w2 = Z.drew := ⟨_, rfl⟩
    have y1 : w2.cell? ⟨n₀ + 1, 0, none⟩ = some (.int .i64 r) := by rw [ew2]; exact d1.cell
    have y2 : w2.frozen? ⟨n₀ + 1, 0, none⟩ = false := by rw [ew2]; exact d1.frozen
    have EW2 := Lib.hid ew2
    have HW2 := Lib.hid hw2
    have D0 := Lib.hid d0
    have D1 := Lib.hid d1
    clear ew2 hw2 d0 d1 er2 er eX hX hXl h64 hr64 hin hc1 hA1 hbl1 hn64
    gi_wp2
    refine wpIn_tail_round 6 (by kernel_rfl) (by kernel_rfl) (by kernel_rfl) ?_
    simp only [List.take_succ_cons, List.take_zero, List.drop_succ_cons, List.drop_zero]
    repeat still_step
    refine wpStill_nil ?_
    rw [← EW2.out]
    gi_wp2
    rw [EW2.out]
    have gz : Z.grownBy (Z.drew.setCell ⟨n₀ + 1, 0, none⟩ (.int .i64 r2)) (some (n₀ + 1)) := grown_set (grown_drew (World.grownBy.refl Z (some (n₀ + 1)))) 0 _
    refine ⟨(KeepsOthers.drew _).trans (KeepsOthers.setCell _ _ _), ((Below.refl n₀ Z).drew).setCell (p := ⟨n₀ + 1, 0, none⟩) (by show n₀ ≤ n₀ + 1; omega) _, ⟨D0.out.kept gz (fun e => by injection e; omega), ?_⟩, hB.drew.setCell (p := ⟨n₀ + 1, 0, none⟩) (by show n₀ ≤ n₀ + 1; omega) _⟩
    rw [HW2.out]
    exact (show Boxed Z.drew (n₀ + 1) 3 (.int .i64 r) from D1.out).set _
  case done =>
    rintro D xs Z hD hS ⟨⟨d0, d1⟩, hB⟩ hK
    rw [hS] at d1
    have hW2 := HW.out
    obtain ⟨r, er⟩ : ∃ r, r = wide L s (nodesL s) := ⟨_, rfl⟩
    rw [← er] at d1 hW2
    have z0 := d0.cell
    have z1 := d1.cell
    have HK := Lib.hid hK
    have HB := Lib.hid hB
    have HR := Lib.hid hW2
    clear er d0 d1 hS hK hB hW2
    gi_wp2
    refine wpIn_region_quiet_lit rfl (by kernel_rfl) (by kernel_rfl) ?_
    quiet_step_in (fail)
    quiet_step_in (fail)
    refine wpQuietIn_step (fun _ _ _ _ => trivial) (fun K hK => ?_)
    go_simp
    apply Exists.intro
    refine ⟨fun _ => ?_, hK _ ?_⟩
    · first
        | exact CallsIn.quiet_of_same ((callsIn_wide.2 (HAL.out _)).mono fun e w' ⟨he, hw⟩ => ⟨he, hw.symm⟩)
        | exact ⟨trivial, CallsIn.quiet_of_same ((callsIn_wide.2 (HAL.out _)).mono fun e w' ⟨he, hw⟩ => ⟨he, hw.symm⟩)⟩
        | exact ⟨by omega, CallsIn.quiet_of_same ((callsIn_wide.2 (HAL.out _)).mono fun e w' ⟨he, hw⟩ => ⟨he, hw.symm⟩)⟩
    clear hK K
    quiet_step_in (fail)
    quiet_step_in (fail)
    refine wpQuietIn_nil ?_
    rintro _ ⟨nq, rfl⟩
    have hK2 : (Z.drewN nq).heap[D]? = some (.deferred (some [])) := HK.out
    gi_wp2
    refine ⟨by simp, .inl ⟨_, _, rfl, run_takeDeferred hK2, ?_⟩⟩
    refine ⟨_, results_tmp rfl _ _ _, ?_⟩
    refine ⟨?_, ?_⟩
    · rw [HR.out]
      show Ending.returned (.bool ((r : Int) == (Q : Int))) = Ending.returned (.bool (r == Q))
      rw [show ((r : Int) == (Q : Int)) = (r == Q) from by rw [Bool.eq_iff_iff, beq_iff_eq, beq_iff_eq]; omega]
    · rw [← EN.out]
      exact (below_drewN HB.out nq).trans (belowK_b (w := w) hle _ D _ _ (by have := SW.out; have := EN.out; omega) hK2 rfl rfl)
  case stop =>
    rintro D cd pre Z _ _ h _
    exact h.elim
end Go.Proofs.YtcblcifnpgmibaaDoor
