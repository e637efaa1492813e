/- The program's turn: a graph of its own switched at one node, in place. -/
import Derived.Test.YtamabhdbcmjbjaaDoorSwMath
import Derived.Test.YtamabhdbcmjbjaaDoorBaseA
import Derived.Test.YtamabhdbcmjbjaaDoorBaseG
namespace Go.Proofs.YtamabhdbcmjbjaaDoor
open Go.RowKit Go.Shelf
attribute [local go_sem] Oper.semAt_some
set_option linter.unusedVariables false
set_option maxRecDepth 100000

/-- All blocks but one stay: a loop's own marks leave that as it is. -/
theorem ownFrom_grown {β : Type} {B g : Nat} {w₀ : World} (hB : w₀.heap.size ≤ B) : OwnFrom B (fun (_ : β) W => w₀.grownBy W (some g)) := fun _ W W' row hs hg hr =>
  ⟨hg.os.trans hs.os, hg.tape.trans hs.tape, hg.output.trans hs.output, Nat.le_trans hs.size hg.size, fun k hk hne => (hg.block k (Nat.lt_of_lt_of_le hk hs.size) (fun e => by have := (hr k e.symm).1; omega)).trans (hs.block k hk hne)⟩
/-- Between two rounds. -/
def TuI (n₀ B g n c v : Nat) (L : List Int) (Q : Nat) (pre : List (Nd n Q)) (W : World) : Prop :=
  Boxed W n₀ 49 (.slice (some ⟨g, 0, none⟩) n c) ∧ Boxed W (n₀ + 1) 3 (.int .i64 v) ∧ Row W B (.slice (some ⟨g, 0, none⟩) n c) (turnOver L v (valsN pre))
theorem tuI_own (n₀ B g n c v : Nat) (L : List Int) (Q : Nat) : Own (TuI n₀ B g n c v L Q) := fun s X Y row hs hg hr =>
  ⟨boxed_own _ _ (fun _ : Unit => _) () X Y row hs.1 hg hr, boxed_own _ _ (fun _ : Unit => _) () X Y row hs.2.1 hg hr, row_kept hs.2.2 hg hr⟩
theorem valsN_lt {n Q : Nat} (pre : List (Nd n Q)) : ∀ x ∈ valsN pre, x < n := fun x hx => by
  obtain ⟨y, _, rfl⟩ := List.mem_map.1 hx
  exact y.2.1

set_option maxHeartbeats 4000000 in
theorem turnRow_in (B g c v : Nat) (L : List Int) (hL : IsGraph L) (hv : v < L.length) (w : World) (hr : Row w B (.slice (some ⟨g, 0, none⟩) L.length c) L) (h2B : 2 ≤ B) (hT : Tab w) :
    CallsIn Fence.wide 6 Tryd.prog 63 #[.agg #[.slice (some ⟨g, 0, none⟩) L.length c], .int .i64 v] w fun e w' =>
      (∃ u, e = .returned u) ∧ Row w' B (.slice (some ⟨g, 0, none⟩) L.length c) (swL L (2 ^ v)) ∧ w.grownBy w' (some g) := by
  have h1 := hL.1
  have h6 := hL.2.1
  have hta := turn_all hL hv
  have hgl := (hr.lt g rfl)
  obtain ⟨n, hn⟩ : ∃ n, n = L.length := ⟨_, rfl⟩
  have hp := two_pos n
  obtain ⟨Q, hQ⟩ : ∃ Q, Q + 1 = 2 ^ n := ⟨2 ^ n - 1, by omega⟩
  rw [← hn] at h1 h6 hv hr hta ⊢
  have HL := Lib.hid hL
  have HN := Lib.hid hn
  have HQ := Lib.hid hQ
  have TB := Lib.hid hT
  have HTA := Lib.hid hta
  obtain ⟨n₀, en⟩ : ∃ n₀, n₀ = w.heap.size := ⟨_, rfl⟩
  have EN := Lib.hid en
  have hgB := hgl.1
  have hgw := hgl.2
  clear hL hn hQ hT hp hta hgl
  obtain ⟨W, eW⟩ : ∃ W, W = ((w.alloc (.cells #[.slice (some ⟨g, 0, none⟩) n c] 49)).alloc (.cells #[.int .i64 v] 3)).alloc (.cells #[.int .i64 (Q : Nat)] 3) := ⟨_, rfl⟩
  have sW : W.heap.size = n₀ + 1 + 1 + 1 := by rw [eW, en]; simp
  have b0 : Boxed W n₀ 49 (.slice (some ⟨g, 0, none⟩) n c) := by rw [eW, en]; exact ((Boxed.new w _ _).alloc _).alloc _
  have b1 : Boxed W (n₀ + 1) 3 (.int .i64 v) := by
    rw [eW, en]; have h := Boxed.new (w.alloc (.cells #[.slice (some ⟨g, 0, none⟩) n c] 49)) 3 (.int .i64 v); rw [World.size_alloc] at h; exact h.alloc _
  have b2 : W.cell? ⟨n₀ + 1 + 1, 0, none⟩ = some (.int .i64 (Q : Nat)) := by
    rw [eW, en]; have h := Boxed.new ((w.alloc (.cells #[.slice (some ⟨g, 0, none⟩) n c] 49)).alloc (.cells #[.int .i64 v] 3)) 3 (.int .i64 (Q : Nat)); rw [World.size_alloc, World.size_alloc] at h; exact h.cell
  have r0 : Row W B (.slice (some ⟨g, 0, none⟩) n c) L := by rw [eW]; exact ((hr.alloc _).alloc _).alloc _
  have g0 : w.grownBy W (some g) := by rw [eW]; exact World.grownBy.trans (World.grownBy.trans (World.grownBy_alloc w _ (some g)) (World.grownBy_alloc _ _ (some g))) (World.grownBy_alloc _ _ (some g))
  have z0 : ((w.alloc (.cells #[.slice (some ⟨g, 0, none⟩) n c] 49)).alloc (.cells #[.int .i64 v] 3)).cell? ⟨w.heap.size, 0, none⟩ = some (.slice (some ⟨g, 0, none⟩) n c) := ((Boxed.new w _ _).alloc _).cell
  have EW := Lib.hid eW
  have hT1 : Tab W := by
    have hb : Below 2 w W := (Below.refl 2 w).grown g0 (by omega) (fun k e => by cases e; omega)
    exact TB.out.below hb (Nat.le_refl _)
  clear eW hr en
  refine callsIn_of_wp_marks Tryd.func63 rfl trivial ?_ rfl
  simp only [Tryd.ntmps63, List.size_toArray, List.length_cons, List.length_nil, Nat.reduceAdd, Nat.reduceSub, Array.replicate_succ, Array.replicate_zero, List.push_toArray, List.append_toArray, List.nil_append, List.cons_append]
  gi_wp2_with (refine ⟨trivial, ?_⟩; gi_at_call 52; refine (callsIn_wide.2 (nodes_any _ n c Q h6 HQ.out _)).mono ?_; rintro e w' ⟨rfl, rfl⟩)
  rw [← EW.out, ← EN.out]
  have hle : w.heap.size ≤ W.heap.size := g0.size
  have hQ2 : Q < 2 ^ n := by have := HQ.out; omega
  have hgW : g < n₀ := by have := EN.out; omega
  clear z0
  refine wpIn_rangeFunc_ownF (α := Nd n Q) rfl (by omega) (gf := 76) (lb := #[.pointer (some ⟨n₀ + 1 + 1, 0, none⟩)]) rfl trivial (enters_of Tryd.func76 (by kernel_rfl) rfl)
    (nodes_stops _ (n₀ + 1 + 1) n Q 2 (by omega) h6 hQ2 W (by omega) b2 hT1 (Nat.le_refl _) (by omega)) belowK_t (belowK_b (by omega)) (Below.refl _ _) (fun _ => rfl)
    (fun pre Z => TuI n₀ B g n c v L Q pre Z ∧ w.grownBy Z (some g)) (fun _ _ _ => False)
    (OwnFrom.and (Own.from (tuI_own _ _ _ _ _ _ _ _) _) (ownFrom_grown hle)) (fun _ _ _ _ _ hs _ _ => hs)
    ⟨⟨b0, b1, r0⟩, g0⟩
    (fun x => { tmps := #[.agg #[.slice (some ⟨g, 0, none⟩) n c], .int .i64 v, .pointer (some ⟨n₀, 0, none⟩), .pointer (some ⟨n₀ + 1, 0, none⟩), .int .i64 (x.1 : Int), .pointer (some ⟨n₀, 0, none⟩), .slice (some ⟨g, 0, none⟩) n c,
      .func (.func 76) #[] #[.pointer (some ⟨n₀ + 1 + 1, 0, none⟩)], .int .i64 (x.1 : Int), undef, undef, undef, undef, undef, undef, undef, undef, undef, undef, undef, undef, undef, undef, undef, undef, undef, undef, undef, undef, undef], defers := [] }) ?assign ?body ?done ?stop
  case assign =>
    intro l x W K hK
    gi_wp2
    exact hK
  case body =>
    rintro l pre x Wr ⟨⟨c0, c1, hr⟩, hG⟩ hlen
    obtain ⟨y, hyn, hyq⟩ := x
    dsimp only at hyn ⊢
    have hvl := valsN_lt pre
    obtain ⟨M, eM⟩ : ∃ M, M = turnOver L v (valsN pre) := ⟨_, rfl⟩
    have hMl : M.length = n := by rw [eM, turnOver_length]; exact HN.out.symm
    have hMv := turnOver_int HL.out (v := v) (by rw [← HN.out]; exact hv) (valsN pre) v (by rw [← HN.out]; exact hv)
    have hMy := turnOver_int HL.out (v := v) (by rw [← HN.out]; exact hv) (valsN pre) y (by rw [← HN.out]; exact hyn)
    have hxv := turnOver_lt HL.out (v := v) (by rw [← HN.out]; exact hv) (valsN pre) (fun x hx => by rw [← HN.out]; exact hvl x hx) v
    have hxy := turnOver_lt HL.out (v := v) (by rw [← HN.out]; exact hv) (valsN pre) (fun x hx => by rw [← HN.out]; exact hvl x hx) y
    have hst : turnOver L v (valsN (pre ++ [(⟨y, hyn, hyq⟩ : Nd n Q)])) = turnP v M y := by rw [valsN_snoc, turnOver_snoc, eM]
    rw [← eM] at hMv hMy hxv hxy hr
    unfold turnP at hst
    have cv := hr.cellAt v (by rw [hMl]; exact hv)
    have cy := hr.cellAt y (by rw [hMl]; exact hyn)
    have fv : Wr.frozen? ⟨g, v, none⟩ = false := hr.frozenAt v (by rw [hMl]; exact hv)
    have fy : Wr.frozen? ⟨g, y, none⟩ = false := hr.frozenAt y (by rw [hMl]; exact hyn)
    rw [hMv] at cv
    rw [hMy] at cy
    obtain ⟨a, ea⟩ : ∃ a, a = ent M v := ⟨_, rfl⟩
    obtain ⟨b, eb⟩ : ∃ b, b = ent M y := ⟨_, rfl⟩
    rw [← ea] at hxv cv hst
    rw [← eb] at hxy cy hst
    have z0 := c0.cell
    have z1 := c1.cell
    have C0 := Lib.hid c0
    have C1 := Lib.hid c1
    have HR := Lib.hid hr
    have HST := Lib.hid hst
    have HML := Lib.hid hMl
    have HG := Lib.hid hG
    clear c0 c1 hr hst hMl hMv hMy hvl eM ea eb hG
    by_cases hyv : y = v
    · subst hyv
      have hne : ((y : Int) != (y : Int)) = false := by simp
      gi_wp2
      refine ⟨KeepsOthers.refl _, Below.refl _ _, ⟨C0.out, C1.out, ?_⟩, HG.out⟩
      rw [HST.out, if_pos (by trivial)]
      exact HR.out
    · have hne : ((y : Int) != (v : Int)) = true := by simp; omega
      have HYV := Lib.hid hyv
      obtain ⟨p, ep⟩ : ∃ p, p = 2 ^ y := ⟨_, rfl⟩
      obtain ⟨q, eq⟩ : ∃ q, q = 2 ^ v := ⟨_, rfl⟩
      have wp1 := wrap_pow y (by omega)
      have wq1 := wrap_pow v (by omega)
      rw [← ep] at wp1
      rw [← eq] at wq1
      have wp2 : IntKind.i64.wrap ((2 : Int) ^ y) = (p : Int) := by rw [IntKind.wrap_i64]; unfold wrap64 at wp1; exact wp1
      have wq2 : IntKind.i64.wrap ((2 : Int) ^ v) = (q : Int) := by rw [IntKind.wrap_i64]; unfold wrap64 at wq1; exact wq1
      have hp64 : p < 64 := by rw [ep]; exact Nat.pow_lt_pow_right (n := 6) (by omega) (by omega)
      have hq64 : q < 64 := by rw [eq]; exact Nat.pow_lt_pow_right (n := 6) (by omega) (by omega)
      have oy := i64_xor_nat a p (Nat.lt_trans hxv (by decide)) (Nat.lt_trans hp64 (by decide))
      have ov := i64_xor_nat b q (Nat.lt_trans hxy (by decide)) (Nat.lt_trans hq64 (by decide))
      have hst2 : turnOver L v (valsN (pre ++ [(⟨y, hyn, hyq⟩ : Nd n Q)])) = (M.set v ((a ^^^ p : Nat) : Int)).set y ((b ^^^ q : Nat) : Int) := by rw [HST.out, if_neg hyv, ep, eq]
      obtain ⟨a2, ea2⟩ : ∃ a2, a2 = a ^^^ p := ⟨_, rfl⟩
      obtain ⟨b2', eb2⟩ : ∃ b2', b2' = b ^^^ q := ⟨_, rfl⟩
      rw [← ea2] at oy hst2
      rw [← eb2] at ov hst2
      have HST2 := Lib.hid hst2
      have hi1 : (0 : Int) ≤ (v : Int) ∧ (v : Int) < (n : Int) := by omega
      have hi2 : (0 : Int) ≤ (y : Int) ∧ (y : Int) < (n : Int) := by omega
      have hy40 : y < 64 := by omega
      have hv40 : v < 64 := by omega
      obtain ⟨w2, ew2⟩ : ∃ w2, w2 = Wr.drew := ⟨_, rfl⟩
      have cv2 : w2.cell? ⟨g, v, none⟩ = some (.int .i64 a) := by rw [ew2]; exact cv
      have fv2 : w2.frozen? ⟨g, v, none⟩ = false := by rw [ew2]; exact fv
      obtain ⟨U, eU⟩ : ∃ U, U = w2.setCell ⟨g, v, none⟩ (.int .i64 a2) := ⟨_, rfl⟩
      have gU : w2.grownBy U (some g) := by rw [eU]; exact grown_set (World.grownBy.refl w2 (some g)) _ _
      have C0U : Boxed U n₀ 49 (.slice (some ⟨g, 0, none⟩) n c) := (show Boxed w2 n₀ 49 (.slice (some ⟨g, 0, none⟩) n c) by rw [ew2]; exact C0.out).kept gU (fun e => by injection e; omega)
      have C1U : Boxed U (n₀ + 1) 3 (.int .i64 v) := (show Boxed w2 (n₀ + 1) 3 (.int .i64 v) by rw [ew2]; exact C1.out).kept gU (fun e => by injection e; omega)
      have z0U := C0U.cell
      have z1U := C1U.cell
      have cyU : U.cell? ⟨g, y, none⟩ = some (.int .i64 b) := by rw [eU]; exact (World.cell?_setCell_other _ _ _ _ (by simp)).trans (by rw [ew2]; exact cy)
      have fyU : U.frozen? ⟨g, y, none⟩ = false := by rw [eU]; exact (World.frozen?_setCell _ _ _ _).trans (by rw [ew2]; exact fy)
      obtain ⟨U2, eU2⟩ : ∃ U2, U2 = U.drew := ⟨_, rfl⟩
      have cyU2 : U2.cell? ⟨g, y, none⟩ = some (.int .i64 b) := by rw [eU2]; exact cyU
      have fyU2 : U2.frozen? ⟨g, y, none⟩ = false := by rw [eU2]; exact fyU
      have EW2 := Lib.hid ew2
      have EU := Lib.hid eU
      have EU2 := Lib.hid eU2
      have CU0 := Lib.hid C0U
      have CU1 := Lib.hid C1U
      have hmx : Tryd.prog.follows .mixedOrders = true := by kernel_rfl
      clear ew2 eU eU2 gU C0U C1U hst2 ep eq ea2 eb2 hp64 hq64 hxv hxy
      gi_wp2
      refine wpIn_tail_round 9 (by kernel_rfl) (by kernel_rfl) (by kernel_rfl) ?_
      simp only [List.take_succ_cons, List.take_zero, List.drop_succ_cons, List.drop_zero]
      repeat still_step
      refine wpStill_nil ?_
      rw [← EW2.out]
      gi_wp2
      rw [← EU.out]
      refine wpIn_tail_round 9 (by kernel_rfl) (by kernel_rfl) (by kernel_rfl) ?_
      simp only [List.take_succ_cons, List.take_zero, List.drop_succ_cons, List.drop_zero]
      repeat still_step
      refine wpStill_nil ?_
      rw [← EU2.out]
      gi_wp2
      rw [EU2.out, EU.out, EW2.out]
      have r1 := (show Row Wr.drew B (.slice (some ⟨g, 0, none⟩) n c) M from HR.out).set v (by rw [HML.out]; exact hv) ((a2 : Nat) : Int)
      have r2 := (show Row (Wr.drew.setCell ⟨g, v, none⟩ (.int .i64 a2)).drew B (.slice (some ⟨g, 0, none⟩) n c) (M.set v ((a2 : Nat) : Int)) from r1).set y (by rw [List.length_set, HML.out]; exact hyn) ((b2' : Nat) : Int)
      have gk := grown_set (grown_drew (grown_set (grown_drew (World.grownBy.refl Wr (some g))) v (.int .i64 a2))) y (.int .i64 b2')
      refine ⟨(((KeepsOthers.drew _).trans (KeepsOthers.setCell _ _ _)).trans (KeepsOthers.drew _)).trans (KeepsOthers.setCell _ _ _), (Below.refl 2 Wr).grown gk (by have := HG.out.size; omega) (fun k e => by injection e; omega), ⟨C0.out.kept gk (fun e => by injection e; omega), C1.out.kept gk (fun e => by injection e; omega), ?_⟩, World.grownBy.trans HG.out gk⟩
      rw [HST2.out]
      exact r2
  case done =>
    rintro D xs Z hD hS ⟨⟨c0, c1, hr⟩, hG⟩ hK
    have HS := Lib.hid hS
    have HR := Lib.hid hr
    clear hS hr
    gi_wp2
    refine ⟨by simp, .inl ⟨_, _, rfl, run_takeDeferred hK, ?_⟩⟩
    refine ⟨_, results_none rfl _ _ _, ?_⟩
    have h0 := ownsRow_putObj HR.out (.deferred none) hK rfl
    refine ⟨⟨_, rfl⟩, ?_, ?_⟩
    · have e2 : Q = 2 ^ n - 1 := by have := HQ.out; omega
      have e3 := full_comp ⟨n, by omega⟩
      dsimp only at e3
      rw [HS.out, e2, e3] at h0
      rw [← HTA.out]
      exact h0
    · have gD := grownBy_putObj' Z D (.deferred none)
      exact ⟨gD.os.trans hG.os, gD.tape.trans hG.tape, gD.output.trans hG.output, Nat.le_trans hG.size gD.size, fun k hk hne => (gD.block k (Nat.lt_of_lt_of_le hk hG.size) (fun e => by injection e; omega)).trans (hG.block k hk hne)⟩
  case stop =>
    rintro D cd pre W _ _ h _
    exact h.elim
end Go.Proofs.YtamabhdbcmjbjaaDoor
