/- slices.Collect over the nodes of a set: the list of these nodes, in memory of its own. -/
import Derived.RangeFuncBox
import Derived.OwnWalkIn
import Derived.Test.YtamabhdbcmjbjaaDoorBaseA
import Derived.Test.YtamabhdbcmjbjaaDoorAppOne
namespace Go.Proofs.YtamabhdbcmjbjaaDoor
open Go.RowKit Go.Shelf
attribute [local go_sem] Oper.semAt_some
set_option linter.unusedVariables false

/-- Between two rounds: the box holds a list of the call's own: what has come. -/
def ColI (n₀ m s : Nat) (pre : List (Nd m s)) (W : World) : Prop := ∃ v, Boxed W n₀ 23 v ∧ Row W n₀ v (ints (valsN pre))
theorem colI_own (n₀ m s : Nat) : Own (ColI n₀ m s) := fun pre X Y row ⟨v, hb, hr⟩ hg hrow =>
  ⟨v, boxed_own _ _ (fun _ : Unit => _) () X Y row hb hg hrow, row_kept hr hg hrow⟩

set_option maxRecDepth 100000 in
set_option maxHeartbeats 2000000 in
theorem appendSeq_in (Bn m s : Nat) (hm : m ≤ 6) (hs : s < 2 ^ m) (w : World) (hB : Bn < w.heap.size) (hc : w.cell? ⟨Bn, 0, none⟩ = some (.int .i64 s)) (hT : Tab w) :
    CallsIn Fence.wide 5 Tryd.prog 92 #[.slice none 0 0, .func (.func 76) #[] #[.pointer (some ⟨Bn, 0, none⟩)]] w (Gave w (ints (nodesL s))) := by
  have h2 := hT.lt
  refine callsIn_of_wp_marks Tryd.func92 rfl trivial ?_ rfl
  simp only [Tryd.ntmps92, List.size_toArray, List.length_cons, List.length_nil, Nat.reduceAdd, Nat.reduceSub, Array.replicate_succ, Array.replicate_zero, List.push_toArray, List.append_toArray, List.nil_append, List.cons_append]
  gi_wp2
  obtain ⟨W, eW⟩ : ∃ W, W = w.alloc (.cells #[.slice none 0 0] 23) := ⟨_, rfl⟩
  have sW : W.heap.size = w.heap.size + 1 := by rw [eW]; simp
  have hBW : Below w.heap.size w W := by rw [eW]; exact (Below.refl _ w).alloc (Nat.le_refl _) _
  have b0 : Boxed W w.heap.size 23 (.slice none 0 0) := by rw [eW]; exact Boxed.new w _ _
  have r0 : Row W w.heap.size (.slice none 0 0) (ints (valsN ([] : List (Nd m s)))) := World.ownsRow_nil W w.heap.size 3 1
  rw [← eW]
  clear eW
  obtain ⟨n₀, en⟩ : ∃ n₀, n₀ = w.heap.size := ⟨_, rfl⟩
  rw [← en] at sW hBW b0 r0 hB h2 ⊢
  have EN := Lib.hid en
  have hle : n₀ ≤ w.heap.size := by omega
  have hcW : W.cell? ⟨Bn, 0, none⟩ = some (.int .i64 s) := (hBW.cell (p := ⟨Bn, 0, none⟩) hB).trans hc
  have hTW : Tab W := hT.below hBW (by omega)
  clear en hc hT
  refine wpIn_rangeFunc_ownF (α := Nd m s) rfl (by omega) (gf := 76) (lb := #[.pointer (some ⟨Bn, 0, none⟩)]) rfl trivial (enters_of Tryd.func76 (by kernel_rfl) rfl)
    (nodes_stops _ Bn m s n₀ (by omega) hm hs W (by omega) hcW hTW (by omega) (by omega)) belowK_t (belowK_b (by omega)) (Below.refl _ _) (fun _ => rfl)
    (fun pre Z => ColI n₀ m s pre Z ∧ Below n₀ w Z) (fun _ _ _ => False)
    (OwnFrom.and (Own.from (colI_own n₀ m s) _) (ownFrom_below hle (by omega))) (fun _ _ _ _ _ hs _ _ => hs)
    ⟨⟨_, b0, r0⟩, hBW⟩
    (fun x => { tmps := #[.slice none 0 0, .func (.func 76) #[] #[.pointer (some ⟨Bn, 0, none⟩)], .pointer (some ⟨n₀, 0, none⟩), undef, .slice none 0 0, .int .i64 (x.1 : Int), .func (.func 76) #[] #[.pointer (some ⟨Bn, 0, none⟩)],
      .int .i64 (x.1 : Int), undef, undef, undef, undef, undef], defers := [] }) ?assign ?body ?done ?stop
  case assign =>
    intro l x W K hK
    gi_wp2
    exact hK
  case body =>
    rintro l pre x Z ⟨⟨v, c0, hr⟩, hB⟩ hlen
    have hl6 : (ints (valsN pre)).length ≤ 100000 := by rw [ints_length, valsN_length]; omega
    have hvs : ints (valsN (pre ++ [x])) = ints (valsN pre) ++ [((x.1 : Nat) : Int)] := by rw [valsN_snoc]; simp [ints]
    obtain ⟨y, ey⟩ : ∃ y : Nat, y = x.1 := ⟨_, rfl⟩
    rw [← ey] at hvs
    rw [← ey]
    have HVS := Lib.hid hvs
    have HLL := Lib.hid hl6
    have C0 := Lib.hid c0
    have HR := Lib.hid hr
    have hnZ : n₀ ≤ Z.heap.size := by have := hB.size; omega
    have z0 := c0.cell
    clear hvs hl6 c0 hr ey
    gi_wp2_with (gi_at_builtin; refine appendIn_one rfl (.tmp 8) (.tmp 10) rfl Z n₀ v (ints (valsN pre)) y rfl rfl HR.out hnZ HLL.out ?_; intro v' w1 hr' hg'
                 obtain ⟨k1, k2, k3, k4, k5⟩ := C0.out.appended (by decide) HR.out hnZ (Nat.le_refl _) hr' hg'
                 obtain ⟨g, cap, rfl⟩ : ∃ g cap, v' = .slice (some ⟨g, 0, none⟩) ((ints (valsN pre)).length + 1) cap := by
                   have h0 := hr'
                   unfold Row at h0
                   rw [List.length_append] at h0
                   exact ownsRow_succ h0
                 have y0 := k1.cell
                 have y1 := k1.frozen
                 have K2 := Lib.hid k2
                 have K3 := Lib.hid k3
                 have K4 := Lib.hid k4
                 have K5 := Lib.hid k5
                 clear hr' hg' k1 k2 k3 k4 k5)
    refine ⟨K4.out, K5.out, ⟨_, K2.out, ?_⟩, hB.trans (K5.out.mono (Nat.le_refl _))⟩
    rw [HVS.out]
    exact K3.out
  case done =>
    rintro D xs Z hD hS ⟨⟨v, c0, hr⟩, hB⟩ hK
    have z0 := c0.cell
    have HS := Lib.hid hS
    have HR := Lib.hid hr
    clear hS hr
    gi_wp2
    refine ⟨by simp, .inl ⟨_, _, rfl, run_takeDeferred hK, ?_⟩⟩
    refine ⟨_, results_tmp rfl _ _ _, ?_⟩
    refine ⟨_, rfl, ?_, ?_⟩
    · rw [← EN.out]
      have h0 := ownsRow_putObj HR.out (.deferred none) hK rfl
      rw [HS.out] at h0
      exact h0
    · rw [← EN.out]
      exact hB.trans (belowK_b (w := w) hle Z D _ _ (by have := EN.out; omega) hK rfl rfl)
  case stop =>
    rintro D cd pre W _ _ h _
    exact h.elim

set_option maxHeartbeats 1000000 in
theorem collect_any (Bn m s : Nat) (hm : m ≤ 6) (hs : s < 2 ^ m) (w : World) (hB : Bn < w.heap.size) (hc : w.cell? ⟨Bn, 0, none⟩ = some (.int .i64 s)) (hT : Tab w) :
    Calls Tryd.prog 83 #[.func (.func 76) #[] #[.pointer (some ⟨Bn, 0, none⟩)]] w (Gave w (ints (nodesL s))) := by
  have H := Lib.hid (callsIn_wide.1 (appendSeq_in Bn m s hm hs w hB hc hT))
  clear hc hT
  go_enter Tryd.func83, Tryd.ntmps83
  go_wp2_with fail
  refine H.out.mono ?_
  rintro e w1 ⟨v, rfl, r, b⟩
  go_wp2
  go_ret
  exact ⟨v, rfl, r, b⟩
end Go.Proofs.YtamabhdbcmjbjaaDoor
