/- The program's graphOf, at a seat with the graphs' methods: the same list, by a range over the pairs. -/
import Derived.RangeFuncBox
import Derived.Test.YtamabhdbcmjbjaaDoorBaseA
import Derived.Test.YtamabhdbcmjbjaaDoorLink
namespace Go.Proofs.YtamabhdbcmjbjaaDoor
open Go.RowKit Go.Shelf
attribute [local go_sem] Oper.semAt_some
set_option linter.unusedVariables false

theorem row_own {β : Type} (B : Nat) (v : Value) (f : β → List Int) : Own (fun s W => Row W B v (f s)) := fun s X Y row hs hg hr => row_kept hs hg hr

/-- Between two rounds of graphOf: the code, the list's box, the place; the list holds the pairs that have come. -/
def OfI (n₀ g n c m : Nat) (pre : List (Pr m)) (W : World) : Prop :=
  Boxed W n₀ 3 (.int .i64 c) ∧ Boxed W (n₀ + 1 + 1) 41 (.slice (some ⟨g, 0, none⟩) n n) ∧ Boxed W (n₀ + 1 + 1 + 1) 3 (.int .i64 (pre.length : Nat)) ∧ Row W n₀ (.slice (some ⟨g, 0, none⟩) n n) (ints (run c n (vals pre)).1)
theorem ofI_own (n₀ g n c m : Nat) : Own (OfI n₀ g n c m) := fun s X Y row hs hg hr =>
  ⟨boxed_own _ _ (fun _ : Unit => _) () X Y row hs.1 hg hr, boxed_own _ _ (fun _ : Unit => _) () X Y row hs.2.1 hg hr, boxed_own _ _ (fun _ : Unit => _) () X Y row hs.2.2.1 hg hr, row_kept hs.2.2.2 hg hr⟩

set_option maxRecDepth 100000 in
set_option maxHeartbeats 2000000 in
theorem implOf_in (n c : Nat) (w : World) (hn1 : 1 ≤ n) (hn : n ≤ 6) (hc : c < 1048576) :
    CallsIn Fence.wide 5 Tryd.prog 64 #[.int .i64 n, .int .i64 c] w (Gave w (ints (ofCode n c))) := by
  have hmk := run_make_graph n (by omega)
  refine callsIn_of_wp_marks Tryd.func64 rfl trivial ?_ rfl
  simp only [Tryd.ntmps64, List.size_toArray, List.length_cons, List.length_nil, Nat.reduceAdd, Nat.reduceSub, Array.replicate_succ, Array.replicate_zero, List.push_toArray, List.append_toArray, List.nil_append, List.cons_append]
  have hms : ∀ x, (madeW x n).heap.size = x.heap.size + 1 := fun x => madeW_size x n
  gi_wp2_with (refine ⟨trivial, ?_⟩; gi_at_call 67; refine (callsIn_wide.2 (pairs_any n _)).mono ?_; rintro e w' ⟨rfl, rfl⟩)
  have R0 := madeW_row (w.alloc (.cells #[.int .i64 c] 3)) n (by omega)
  have M0 := madeW_below (w.alloc (.cells #[.int .i64 c] 3)) n
  have S0 := hms (w.alloc (.cells #[.int .i64 c] 3))
  have X0 : Boxed (madeW (w.alloc (.cells #[.int .i64 c] 3)) n) w.heap.size 3 (.int .i64 c) := (Boxed.new w 3 (.int .i64 c)).alloc _
  clear hmk hms
  obtain ⟨w1, e1⟩ : ∃ w1, w1 = madeW (w.alloc (.cells #[.int .i64 c] 3)) n := ⟨_, rfl⟩
  rw [← e1] at R0 M0 S0 X0 ⊢
  rw [World.size_alloc] at R0 M0 S0
  have hB1 : Below w.heap.size w w1 := ((Below.refl _ w).alloc (Nat.le_refl _) _).trans (M0.mono (by omega))
  clear e1
  obtain ⟨W, eW⟩ : ∃ W, W = ((w1.alloc (.cells #[.slice (some ⟨w.heap.size + 1, 0, none⟩) n n] 41)).alloc (.cells #[.int .i64 0] 3)).alloc (.cells #[.int .i64 n] 3) := ⟨_, rfl⟩
  have sW : W.heap.size = w.heap.size + 1 + 1 + 1 + 1 + 1 := by rw [eW]; simp [S0]
  have hBW : Below w.heap.size w W := by rw [eW]; exact ((hB1.alloc (by omega) _).alloc (by simp; omega) _).alloc (by simp; omega) _
  have b0 : Boxed W w.heap.size 3 (.int .i64 c) := by rw [eW]; exact ((X0.alloc _).alloc _).alloc _
  have b2 : Boxed W (w.heap.size + 1 + 1) 41 (.slice (some ⟨w.heap.size + 1, 0, none⟩) n n) := by
    rw [eW]; have h := Boxed.new w1 41 (.slice (some ⟨w.heap.size + 1, 0, none⟩) n n); rw [S0] at h; exact (h.alloc _).alloc _
  have b3 : Boxed W (w.heap.size + 1 + 1 + 1) 3 (.int .i64 0) := by
    rw [eW]; have h := Boxed.new (w1.alloc (.cells #[.slice (some ⟨w.heap.size + 1, 0, none⟩) n n] 41)) 3 (.int .i64 0); rw [World.size_alloc, S0] at h; exact h.alloc _
  have b4 : W.cell? ⟨w.heap.size + 1 + 1 + 1 + 1, 0, none⟩ = some (.int .i64 n) := by
    rw [eW]; have h := Boxed.new ((w1.alloc (.cells #[.slice (some ⟨w.heap.size + 1, 0, none⟩) n n] 41)).alloc (.cells #[.int .i64 0] 3)) 3 (.int .i64 n); rw [World.size_alloc, World.size_alloc, S0] at h; exact h.cell
  have r0 : Row W w.heap.size (.slice (some ⟨w.heap.size + 1, 0, none⟩) n n) (ints (List.replicate n 0)) := by
    rw [eW]; exact ((((R0.mono (by omega)).alloc _).alloc _).alloc _)
  rw [← eW]
  clear eW S0 X0 R0 M0 hB1
  obtain ⟨n₀, en⟩ : ∃ n₀, n₀ = w.heap.size := ⟨_, rfl⟩
  rw [← en] at sW hBW b0 b2 b3 b4 r0 ⊢
  have EN := Lib.hid en
  have SW := Lib.hid sW
  have hle : n₀ ≤ w.heap.size := by omega
  have hleW : n₀ + 1 + 1 + 1 + 1 < W.heap.size := by omega
  clear en sW
  refine wpIn_rangeFunc_ownF (α := Pr n) rfl (by omega) (gf := 80) (lb := #[.pointer (some ⟨n₀ + 1 + 1 + 1 + 1, 0, none⟩)]) rfl trivial (enters_of Tryd.func80 (by kernel_rfl) rfl)
    (pairs_stops Fence.wide _ trivial rfl (by omega) (n₀ + 1 + 1 + 1 + 1) n hn W (by omega) b4) (fun _ _ => trivial) (fun _ _ _ _ _ _ _ _ => trivial) (Below.refl _ _) (fun _ => rfl)
    (fun pre W => OfI n₀ (n₀ + 1) n c n pre W ∧ Below n₀ w W) (fun _ _ _ => False)
    (OwnFrom.and (Own.from (ofI_own n₀ (n₀ + 1) n c n) _) (ownFrom_below (by omega) (by omega))) (fun _ _ _ _ _ hs _ _ => hs)
    ⟨⟨b0, b2, b3, r0⟩, hBW⟩
    (fun x => { tmps := #[.int .i64 n, .int .i64 c, undef, .pointer (some ⟨n₀, 0, none⟩), .slice none 0 0, .pointer (some ⟨n₀ + 1 + 1, 0, none⟩), .pointer (some ⟨n₀ + 1 + 1 + 1, 0, none⟩), .int .i64 (x.1.1 : Int), .int .i64 (x.1.2 : Int), .int .i64 n, .slice (some ⟨n₀ + 1, 0, none⟩) n n, .int .i64 n,
      .func (.func 80) #[] #[.pointer (some ⟨n₀ + 1 + 1 + 1 + 1, 0, none⟩)], .int .i64 (x.1.1 : Int), .int .i64 (x.1.2 : Int), undef, undef, undef, undef, undef, undef, undef, undef, undef, undef, undef, undef], defers := [] }) ?assign ?body ?done ?stop
  case assign =>
    intro l x W K hK
    gi_wp2
    exact hK
  case body =>
    rintro l pre x Wr ⟨⟨c0, c2, c3, hr⟩, hB⟩ hlen
    obtain ⟨k, ek⟩ : ∃ k, k = pre.length := ⟨_, rfl⟩
    have hk1 : (pre ++ [x]).length = k + 1 := by rw [List.length_append, ek]; rfl
    have hst := run_snoc c n (vals pre) x.1
    have hat := run_at c n (vals pre)
    rw [← vals_snoc] at hst
    rw [vals_length, ← ek] at hat
    rw [← ek] at c3 hlen
    have hL : (run c n (vals pre)).1.length = n := run_length _ _ _
    have hsm : ∀ y ∈ (run c n (vals pre)).1, y < 1048576 := fun y hy => Nat.lt_trans (run_lt c n (vals pre) (fun p hp => by
      simp only [vals, List.mem_map] at hp
      obtain ⟨q, _, rfl⟩ := hp
      have := q.2
      omega) y hy) (by decide)
    obtain ⟨L, eL⟩ : ∃ L, L = (run c n (vals pre)).1 := ⟨_, rfl⟩
    rw [← eL] at hL hsm hr
    obtain ⟨⟨u, v⟩, hu, hv⟩ := x
    dsimp only at hu hv hst ⊢
    obtain ⟨bit, ebit⟩ : ∃ bit, bit = c / 2 ^ k % 2 := ⟨_, rfl⟩
    have hbit : bit = 0 ∨ bit = 1 := by omega
    have f1 := bit_of c k hc
    rw [← ebit] at f1
    have el : (run c n (vals (pre ++ [⟨(u, v), hu, hv⟩]))).1 = lnk L u v bit := by rw [hst]; show lnk _ _ _ _ = _; rw [hat, ← eL, ← ebit]
    have HK := Lib.hid hk1
    have HE := Lib.hid el
    have HL := Lib.hid hL
    have HS := Lib.hid hsm
    have C0 := Lib.hid c0
    have C2 := Lib.hid c2
    have C3 := Lib.hid c3
    have HR := Lib.hid hr
    have hc0 := c0.cell
    have hc2 := c2.cell
    have hc3 := c3.cell
    have hf3 := c3.frozen
    clear hst hat hsm hL eL ek ebit hk1 el c0 c2 c3 hr
    rcases hbit with rfl | rfl
    · gi_wp2
      refine ⟨KeepsOthers.setCell _ _ _, trivial, ⟨C0.out.other (by omega) _, C2.out.other (by omega) _, ?_, ?_⟩, hB.setCell (p := ⟨n₀ + 1 + 1 + 1, 0, none⟩) (by show n₀ ≤ n₀ + 1 + 1 + 1; omega) _⟩
      · rw [HK.out]; exact C3.out.set _
      · rw [HE.out, lnk_zero]
        exact World.ownsRow.kept HR.out (grownBy_setCell' _ (n₀ + 1 + 1 + 1) _) (.inr (ne_some (a := n₀ + 1) (b := n₀ + 1 + 1 + 1) (by omega)))
    · gi_wp2_with (refine ⟨trivial, ?_⟩; gi_at_call 78; refine (CallsIn.inRound l (callsIn_wide.2 (link_any n₀ (n₀ + 1) n n L u v _ hn HL.out (by omega) hv (by omega) HS.out HR.out))).mono ?_; rintro e W3 ⟨⟨uu, rfl⟩, hr3, hg3⟩; have D3 := C3.out.kept hg3 (ne_some (by omega)); have hd3 := D3.cell; have hdf3 := D3.frozen; have E3 := Lib.hid D3; have G3 := Lib.hid hg3; have R3 := Lib.hid hr3; clear D3 hg3 hr3)
      refine ⟨(KeepsOthers.of_grownBy G3.out ?_).trans (KeepsOthers.setCell _ _ _), trivial, ⟨(C0.out.kept G3.out (ne_some (by omega))).other (by omega) _, (C2.out.kept G3.out (ne_some (by omega))).other (by omega) _, ?_, ?_⟩, (hB.grown G3.out ?_ ?_).setCell (p := ⟨n₀ + 1 + 1 + 1, 0, none⟩) (by show n₀ ≤ n₀ + 1 + 1 + 1; omega) _⟩
      · intro j o ej hj
        cases ej
        rcases HR.out.2 with ⟨hv0, _⟩ | ⟨g, cap, cur, hv0, _, hgb, _⟩
        · cases hv0
        · cases hv0
          rw [hgb] at hj
          cases hj
          rfl
      · rw [HK.out]; exact E3.out.set _
      · rw [HE.out]
        exact World.ownsRow.kept R3.out (grownBy_setCell' _ (n₀ + 1 + 1 + 1) _) (.inr (ne_some (a := n₀ + 1) (b := n₀ + 1 + 1 + 1) (by omega)))
      · have := C0.out.lt; omega
      · intro j ej; cases ej; omega
  case done =>
    rintro D xs Wr hD hS ⟨⟨c0, c2, c3, hr⟩, hB⟩ hK
    have hc2 := c2.cell
    have R := Lib.hid hr
    have HS := Lib.hid hS
    clear hr hS
    gi_wp2
    refine ⟨by simp, .inl ⟨_, _, rfl, run_takeDeferred hK, ?_⟩⟩
    refine ⟨_, results_tmp rfl _ _ _, ?_⟩
    refine ⟨_, rfl, ?_, ?_⟩
    · rw [← EN.out]
      have h0 := ownsRow_putObj R.out (.deferred none) hK rfl
      rw [HS.out] at h0
      exact h0
    · rw [← EN.out]
      exact hB.trans (belowK_b (w := w) hle Wr D _ _ (by have := EN.out; omega) hK rfl rfl)
  case stop =>
    rintro D c pre W _ _ h _
    exact h.elim

/-- **graphOf makes the graph of the code.** -/
theorem implOf_any (n c : Nat) (w : World) (hn1 : 1 ≤ n) (hn : n ≤ 6) (hc : c < 1048576) :
    Calls Tryd.prog 64 #[.int .i64 n, .int .i64 c] w (Gave w (ints (ofCode n c))) := callsIn_wide.1 (implOf_in n c w hn1 hn hc)
end Go.Proofs.YtamabhdbcmjbjaaDoor
