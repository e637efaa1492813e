/- The program's switchedAt: a copy of the graph, turned at each node of a set. -/
import Derived.Test.YtamabhdbcmjbjaaDoorTurnFn
import Derived.Test.YtamabhdbcmjbjaaDoorCloneG
import Derived.Test.YtamabhdbcmjbjaaDoorBaseA
namespace Go.Proofs.YtamabhdbcmjbjaaDoor
open Go.RowKit Go.Shelf
attribute [local go_sem] Oper.semAt_some
set_option linter.unusedVariables false
set_option maxRecDepth 100000

def SwI (s0 p g n c : Nat) (L : List Int) (s : Nat) (pre : List (Nd n s)) (W : World) : Prop :=
  Boxed W s0 49 (.slice none 0 0) ∧ Boxed W p 49 (.slice (some ⟨g, 0, none⟩) n c) ∧ Row W s0 (.slice (some ⟨g, 0, none⟩) n c) (swL L (xsum (valsN pre)))
theorem swI_own (s0 p g n c : Nat) (L : List Int) (s : Nat) : Own (SwI s0 p g n c L s) := fun x X Y row hs hg hr =>
  ⟨boxed_own _ _ (fun _ : Unit => _) () X Y row hs.1 hg hr, boxed_own _ _ (fun _ : Unit => _) () X Y row hs.2.1 hg hr, row_kept hs.2.2 hg hr⟩
/-- A switched graph, of memory of its own. -/
def GaveS (w : World) (L : List Int) (e : Ending) (w' : World) : Prop := ∃ v, e = .returned (.agg #[v]) ∧ Row w' w.heap.size v L ∧ Below w.heap.size w w'

set_option maxHeartbeats 4000000 in
theorem switchedAt_in (A : Option Addr) (c s : Nat) (L : List Int) (hL : IsGraph L) (hs : s < 2 ^ L.length) (w : World) (h : Seen w A L) (hT : Tab w) :
    CallsIn Fence.wide 12 Tryd.prog 31 #[.slice A L.length c, .int .i64 s] w (GaveS w (swL L s)) := by
  have h1 := hL.1
  have h6 := hL.2.1
  have h2 := hT.lt
  have h64 := two_le h6
  have hxs : swL L (xsum (nodesL s)) = swL L s := by rw [xsum_nodes ⟨s, by omega⟩]
  have hz : swL L (xsum []) = L := sw_zero hL
  obtain ⟨s0, es⟩ : ∃ s0, s0 = w.heap.size := ⟨_, rfl⟩
  have HC := Lib.hid (cloneG_any A c L (by omega) (by omega) (w.alloc (.cells #[.slice none 0 0] 49)) (h.below ((Below.refl _ w).alloc (Nat.le_refl _) _)))
  have x0 := Boxed.new w 49 (.slice none 0 0)
  have B0 := (Below.refl w.heap.size w).alloc (Nat.le_refl _) (.cells #[.slice none 0 0] 49)
  rw [← es] at x0 B0
  have X0 := Lib.hid x0
  have HB0 := Lib.hid B0
  have s1 : (w.alloc (.cells #[.slice none 0 0] 49)).heap.size = s0 + 1 := by rw [es]; simp
  obtain ⟨w1, ew1⟩ : ∃ w1, w1 = w.alloc (.cells #[.slice none 0 0] 49) := ⟨_, rfl⟩
  rw [← ew1] at HC X0 HB0 s1
  obtain ⟨n, hn⟩ : ∃ n, n = L.length := ⟨_, rfl⟩
  rw [← hn] at h1 h6 hs HC ⊢
  have HL := Lib.hid hL
  have HN := Lib.hid hn
  have TB := Lib.hid hT
  have HXS := Lib.hid hxs
  have HZ := Lib.hid hz
  have ES := Lib.hid es
  have EW1 := Lib.hid ew1
  have S1 := Lib.hid s1
  clear hL hn h hT hxs hz es x0 B0 ew1 s1 h64
  refine callsIn_of_wp_marks Tryd.func31 rfl trivial ?_ rfl
  simp only [Tryd.ntmps31, List.size_toArray, List.length_cons, List.length_nil, Nat.reduceAdd, Nat.reduceSub, Array.replicate_succ, Array.replicate_zero, List.push_toArray, List.append_toArray, List.nil_append, List.cons_append]
  gi_wp2_with (first
    | (refine ⟨trivial, ?_⟩; gi_at_call 62; rw [← EW1.out]; refine (callsIn_wide.2 HC.out).mono ?_; rintro e w2 ⟨u, rfl, hr, hb⟩
       obtain ⟨g, cap, rfl⟩ : ∃ g cap, u = .slice (some ⟨g, 0, none⟩) n cap := by
         obtain ⟨n1, en1⟩ : ∃ n1, n = n1 + 1 := ⟨n - 1, by omega⟩
         have h0 := hr
         unfold Row at h0
         rw [← HN.out, en1] at h0
         obtain ⟨g, cap, e⟩ := ownsRow_succ h0
         exact ⟨g, cap, by rw [e, en1]⟩
       have HR := Lib.hid hr
       have HB := Lib.hid hb
       clear hr hb)
    | (refine ⟨trivial, ?_⟩; gi_at_call 59; refine (callsIn_wide.2 (nodesIn_any s _)).mono ?_; rintro e w' ⟨rfl, rfl⟩))
  obtain ⟨p, ep⟩ : ∃ p, p = w2.heap.size := ⟨_, rfl⟩
  have hr0 := HR.out
  rw [S1.out] at hr0
  have hgl := hr0.lt g rfl
  have hgp : g < p := by rw [ep]; exact hgl.2
  have hg1 : s0 + 1 ≤ g := hgl.1
  obtain ⟨W, eW⟩ : ∃ W, W = (w2.alloc (.cells #[.slice (some ⟨g, 0, none⟩) n cap] 49)).alloc (.cells #[.int .i64 s] 3) := ⟨_, rfl⟩
  have sW : W.heap.size = p + 1 + 1 := by rw [eW, ep]; simp
  have xw2 : Boxed w2 s0 49 (.slice none 0 0) := (HB.out.block s0 X0.out.lt).trans X0.out
  have bw2 : Below s0 w w2 := HB0.out.trans (HB.out.mono (by rw [S1.out]; omega))
  have b0 : Boxed W s0 49 (.slice none 0 0) := by rw [eW]; exact (xw2.alloc _).alloc _
  have b1 : Boxed W p 49 (.slice (some ⟨g, 0, none⟩) n cap) := by rw [eW, ep]; exact (Boxed.new w2 _ _).alloc _
  have b2 : W.cell? ⟨p + 1, 0, none⟩ = some (.int .i64 s) := by
    rw [eW, ep]; have h := Boxed.new (w2.alloc (.cells #[.slice (some ⟨g, 0, none⟩) n cap] 49)) 3 (.int .i64 s); rw [World.size_alloc] at h; exact h.cell
  have r0 : Row W s0 (.slice (some ⟨g, 0, none⟩) n cap) (swL L (xsum (valsN ([] : List (Nd n s))))) := by
    show Row W s0 _ (swL L (xsum []))
    rw [HZ.out, eW]; exact ((hr0.mono (by omega)).alloc _).alloc _
  have hBW : Below s0 w W := by
    rw [eW]; exact (bw2.alloc (by omega) _).alloc (by simp; omega) _
  have hT1 : Tab W := TB.out.below hBW (by rw [ES.out]; exact h2)
  rw [← ES.out, ← ep, ← eW]
  have h2s : 2 ≤ s0 := by rw [ES.out]; exact h2
  have hle : s0 ≤ w.heap.size := by rw [ES.out]; exact Nat.le_refl _
  clear eW xw2 bw2 hr0 hgl HR HB HC X0 HB0 ep
  refine wpIn_rangeFunc_ownF (α := Nd n s) rfl (by omega) (gf := 76) (lb := #[.pointer (some ⟨p + 1, 0, none⟩)]) rfl trivial (enters_of Tryd.func76 (by kernel_rfl) rfl)
    (nodes_stops _ (p + 1) n s s0 (by omega) h6 hs W (by omega) b2 hT1 h2s (by omega)) belowK_t (belowK_b (by omega)) (Below.refl _ _) (fun _ => rfl)
    (fun pre Z => SwI s0 p g n cap L s pre Z ∧ Below s0 w Z) (fun _ _ _ => False)
    (OwnFrom.and (Own.from (swI_own _ _ _ _ _ _ _) _) (ownFrom_below hle (by omega))) (fun _ _ _ _ _ hs _ _ => hs)
    ⟨⟨b0, b1, r0⟩, hBW⟩
    (fun x => { tmps := #[.slice A n c, .int .i64 s, undef, undef, .pointer (some ⟨s0, 0, none⟩), .pointer (some ⟨p, 0, none⟩), .int .i64 (x.1 : Int), .slice A n c, .slice (some ⟨g, 0, none⟩) n cap, .agg #[.slice (some ⟨g, 0, none⟩) n cap], .int .i64 s,
      .func (.func 76) #[] #[.pointer (some ⟨p + 1, 0, none⟩)], .int .i64 (x.1 : Int), undef, undef, undef, undef], defers := [] }) ?assign ?body ?done ?stop
  case assign =>
    intro l x W K hK
    gi_wp2
    exact hK
  case body =>
    rintro l pre x Wr ⟨⟨c0, c1, hr⟩, hB⟩ hlen
    obtain ⟨y, hyn, hyq⟩ := x
    dsimp only at hyn ⊢
    have hvl := valsN_lt pre
    have hxl : xsum (valsN pre) < 2 ^ L.length := xsum_lt _ _ (fun v hv => by rw [← HN.out]; exact hvl v hv)
    have hg2 := sw_graph HL.out hxl
    have hst := sw_turn HL.out (vs := valsN pre) (fun v hv => by rw [← HN.out]; exact hvl v hv) (v := y) (by rw [← HN.out]; exact hyn)
    have hvs : valsN (pre ++ [(⟨y, hyn, hyq⟩ : Nd n s)]) = valsN pre ++ [y] := valsN_snoc _ _
    rw [← hvs] at hst
    have hTr : Tab Wr := TB.out.below hB (by omega)
    have hl2 : (swL L (xsum (valsN pre))).length = n := by rw [swL_length]; exact HN.out.symm
    obtain ⟨M, eM⟩ : ∃ M, M = swL L (xsum (valsN pre)) := ⟨_, rfl⟩
    rw [← eM] at hg2 hst hr hl2
    have HT := Lib.hid (callsIn_wide.1 (turnRow_in s0 g cap y M hg2 (by rw [hl2]; exact hyn) Wr (by rw [hl2]; exact hr) h2s hTr))
    rw [hl2] at HT
    have HST := Lib.hid hst
    have HR := Lib.hid hr
    have C0 := Lib.hid c0
    have C1 := Lib.hid c1
    have z1 := c1.cell
    clear c0 c1 hr hst hg2 hvl hxl hvs hTr hl2 eM
    gi_wp2_with (refine ⟨trivial, ?_⟩; gi_at_call 63; refine (CallsIn.inRound l (callsIn_wide.2 HT.out)).mono ?_; rintro e W3 ⟨⟨uu, rfl⟩, hr3, hg3⟩; have G3 := Lib.hid hg3; have R3 := Lib.hid hr3; clear hg3 hr3)
    have gz := G3.out
    refine ⟨KeepsOthers.of_grownBy gz ?_, (Below.refl s0 Wr).grown gz (by have := hB.size; omega) (fun k e => by injection e; omega), ⟨C0.out.kept gz (ne_some (by omega)), C1.out.kept gz (ne_some (by omega)), ?_⟩, hB.grown gz (by have := hB.size; omega) (fun j e => by cases e; omega)⟩
    · intro j o ej hj
      cases ej
      rcases HR.out.2 with ⟨hv0, _⟩ | ⟨g', cap', cur, hv0, _, hgb, _⟩
      · cases hv0
      · cases hv0
        rw [hgb] at hj
        cases hj
        rfl
    · rw [← HST.out]; exact R3.out
  case done =>
    rintro D xs Z hD hS ⟨⟨c0, c1, hr⟩, hB⟩ hK
    have y0 := c0.cell
    have y1 := c1.cell
    have y2 := c0.frozen
    have g1 := grownBy_setCell' Z s0 (.slice (some ⟨g, 0, none⟩) n cap)
    have k1 := (g1.block D (Array.getElem?_eq_some_iff.1 hK).1 (fun e => by injection e; omega)).trans hK
    have gD := grownBy_putObj' (Z.setCell ⟨s0, 0, none⟩ (.slice (some ⟨g, 0, none⟩) n cap)) D (.deferred none)
    have zc0 := ((c0.set (.slice (some ⟨g, 0, none⟩) n cap)).kept gD (fun e => by injection e; omega)).cell
    have hr1 := World.ownsRow.kept hr g1 (.inr (fun e => by have e2 : some g = some s0 := e; injection e2; omega))
    have hr2 := ownsRow_putObj hr1 (.deferred none) k1 rfl
    have hB2 : Below s0 w ((Z.setCell ⟨s0, 0, none⟩ (.slice (some ⟨g, 0, none⟩) n cap)).putObj D (.deferred none)) := (hB.setCell (p := ⟨s0, 0, none⟩) (Nat.le_refl _) _).grown gD (by have := hB.size; have := g1.size; omega) (fun r e => by cases e; omega)
    have HS := Lib.hid hS
    have HR2 := Lib.hid hr2
    have HB2 := Lib.hid hB2
    have K1 := Lib.hid k1
    have ZC0 := Lib.hid zc0
    clear hS hr hr1 hr2 hB2 k1 zc0 gD g1 c0 c1 hK
    gi_wp2
    refine ⟨by simp, .inl ⟨_, _, rfl, run_takeDeferred K1.out, ?_⟩⟩
    have zc0 := ZC0.out
    refine ⟨.agg #[.slice (some ⟨g, 0, none⟩) n cap], by simp [results, Tryd.f31, go_sem, zc0], ?_⟩
    refine ⟨_, rfl, ?_, ?_⟩
    · rw [← ES.out]
      have h0 := HR2.out
      rw [HS.out, HXS.out] at h0
      exact h0
    · rw [← ES.out]; exact HB2.out
  case stop =>
    rintro D cd pre W _ _ h _
    exact h.elim
end Go.Proofs.YtamabhdbcmjbjaaDoor
