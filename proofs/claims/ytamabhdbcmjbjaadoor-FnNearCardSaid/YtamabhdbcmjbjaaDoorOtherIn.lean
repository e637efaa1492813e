/- The program's other graph, of a list that is a graph. -/
import Derived.RangeFuncBox
import Derived.Test.YtamabhdbcmjbjaaDoorBaseA
import Derived.Test.YtamabhdbcmjbjaaDoorOtherList
import Derived.Test.YtamabhdbcmjbjaaDoorLink
import Derived.Test.YtamabhdbcmjbjaaDoorBaseG
namespace Go.Proofs.YtamabhdbcmjbjaaDoor
open Go.RowKit Go.Shelf
attribute [local go_sem] Oper.semAt_some
set_option linter.unusedVariables false
set_option maxRecDepth 100000

theorem nodes_every : ∀ n : Fin 7, nodesL (2 ^ n.val - 1) = List.range n.val := by decide
/-- Some places set. -/
def osets (L : List Int) (ps : List Nat) : List Nat := ps.foldl (fun acc v => acc.set v (oth L v)) (List.replicate L.length 0)
theorem osets_snoc (L : List Int) (ps : List Nat) (v : Nat) : osets L (ps ++ [v]) = (osets L ps).set v (oth L v) := by simp [osets]
theorem osets_length (L : List Int) (ps : List Nat) : (osets L ps).length = L.length := by
  induction ps using snoc_ind with
  | h0 => simp [osets]
  | h1 l x ih => rw [osets_snoc, List.length_set, ih]
theorem osets_range (L : List Int) (k : Nat) (hk : k ≤ L.length) : osets L (List.range k) = (List.range k).map (oth L) ++ List.replicate (L.length - k) 0 := by
  induction k with
  | zero => simp [osets]
  | succ k ih =>
    rw [List.range_succ, osets_snoc, ih (by omega)]
    have hl : ((List.range k).map (oth L)).length = k := by simp
    have e : L.length - k = (L.length - (k + 1)) + 1 := by omega
    rw [List.set_append_right _ _ (by omega), hl, Nat.sub_self, e, List.replicate_succ, List.set_cons_zero]
    simp
theorem osets_all (L : List Int) : ints (osets L (List.range L.length)) = otherL L L.length := by
  rw [osets_range L L.length (Nat.le_refl _), Nat.sub_self, List.replicate_zero, List.append_nil]
  unfold ints otherL
  rw [List.map_map]
  rfl
def OthI (n₀ g n : Nat) (S : Value) (L : List Int) (Q : Nat) (pre : List (Nd n Q)) (W : World) : Prop :=
  Boxed W n₀ 41 S ∧ Boxed W (n₀ + 1 + 1) 41 (.slice (some ⟨g, 0, none⟩) n n) ∧ Row W n₀ (.slice (some ⟨g, 0, none⟩) n n) (ints (osets L (valsN pre)))
theorem othI_own (n₀ g n : Nat) (S : Value) (L : List Int) (Q : Nat) : Own (OthI n₀ g n S L Q) := fun s X Y row hs hg hr =>
  ⟨boxed_own _ _ (fun _ : Unit => _) () X Y row hs.1 hg hr, boxed_own _ _ (fun _ : Unit => _) () X Y row hs.2.1 hg hr, row_kept hs.2.2 hg hr⟩

set_option maxRecDepth 100000 in
set_option maxHeartbeats 2000000 in
theorem implOther_in (A : Option Addr) (c : Nat) (L : List Int) (hg : IsGraph L) (w : World) (h : Seen w A L) (hT : Tab w) :
    CallsIn Fence.wide 6 Tryd.prog 45 #[.slice A L.length c] w (Gave w (otherL L L.length)) := by
  have h1 := hg.1
  have h6 := hg.2.1
  obtain ⟨blk, off, hA0, hbl0, _⟩ := h 0 (by omega)
  obtain ⟨n, hn⟩ : ∃ n, n = L.length := ⟨_, rfl⟩
  have hp := two_pos n
  obtain ⟨Q, hQ⟩ : ∃ Q, Q + 1 = 2 ^ n := ⟨2 ^ n - 1, by omega⟩
  have hmk := run_make_graph n (by omega)
  have hms : ∀ x, (madeW x n).heap.size = x.heap.size + 1 := fun x => madeW_size x n
  rw [← hn] at h1 h6 ⊢
  subst hA0
  have X0 : Boxed (madeW (w.alloc (.cells #[.slice (some ⟨blk, off, none⟩) n c] 41)) n) w.heap.size 41 (.slice (some ⟨blk, off, none⟩) n c) := (Boxed.new w _ _).alloc _
  have x0 := X0.cell
  have HN := Lib.hid hn
  have H := Lib.hid h
  have HG := Lib.hid hg
  have HQ := Lib.hid hQ
  have TB := Lib.hid hT
  clear h hg hn hQ hT hp
  refine callsIn_of_wp_marks Tryd.func45 rfl trivial ?_ rfl
  simp only [Tryd.ntmps45, List.size_toArray, List.length_cons, List.length_nil, Nat.reduceAdd, Nat.reduceSub, Array.replicate_succ, Array.replicate_zero, List.push_toArray, List.append_toArray, List.nil_append, List.cons_append]
  gi_wp2_with (refine ⟨trivial, ?_⟩; gi_at_call 52; refine (callsIn_wide.2 (nodes_any _ n c Q h6 HQ.out _)).mono ?_; rintro e w' ⟨rfl, rfl⟩)
  have R0 := madeW_row (w.alloc (.cells #[.slice (some ⟨blk, off, none⟩) n c] 41)) n (by omega)
  have M0 := madeW_below (w.alloc (.cells #[.slice (some ⟨blk, off, none⟩) n c] 41)) n
  have S0 := hms (w.alloc (.cells #[.slice (some ⟨blk, off, none⟩) n c] 41))
  clear hmk hms x0
  obtain ⟨w1, e1⟩ : ∃ w1, w1 = madeW (w.alloc (.cells #[.slice (some ⟨blk, off, none⟩) n c] 41)) n := ⟨_, rfl⟩
  rw [← e1] at R0 M0 S0 X0 ⊢
  rw [World.size_alloc] at R0 M0 S0
  have hB1 : Below w.heap.size w w1 := ((Below.refl _ w).alloc (Nat.le_refl _) _).trans (M0.mono (by omega))
  clear e1
  obtain ⟨W, eW⟩ : ∃ W, W = (w1.alloc (.cells #[.slice (some ⟨w.heap.size + 1, 0, none⟩) n n] 41)).alloc (.cells #[.int .i64 (Q : Nat)] 3) := ⟨_, rfl⟩
  have sW : W.heap.size = w.heap.size + 1 + 1 + 1 + 1 := by rw [eW]; simp [S0]
  have hBW : Below w.heap.size w W := by rw [eW]; exact (hB1.alloc (by omega) _).alloc (by simp; omega) _
  have b0 : Boxed W w.heap.size 41 (.slice (some ⟨blk, off, none⟩) n c) := by rw [eW]; exact (X0.alloc _).alloc _
  have b2 : Boxed W (w.heap.size + 1 + 1) 41 (.slice (some ⟨w.heap.size + 1, 0, none⟩) n n) := by
    rw [eW]; have h := Boxed.new w1 41 (.slice (some ⟨w.heap.size + 1, 0, none⟩) n n); rw [S0] at h; exact h.alloc _
  have b4 : W.cell? ⟨w.heap.size + 1 + 1 + 1, 0, none⟩ = some (.int .i64 (Q : Nat)) := by
    rw [eW]; have h := Boxed.new (w1.alloc (.cells #[.slice (some ⟨w.heap.size + 1, 0, none⟩) n n] 41)) 3 (.int .i64 (Q : Nat)); rw [World.size_alloc, S0] at h; exact h.cell
  have r0 : Row W w.heap.size (.slice (some ⟨w.heap.size + 1, 0, none⟩) n n) (ints (List.replicate n 0)) := by
    rw [eW]; exact (((R0.mono (by omega)).alloc _).alloc _)
  rw [← eW]
  clear eW S0 X0 R0 M0 hB1
  obtain ⟨n₀, en⟩ : ∃ n₀, n₀ = w.heap.size := ⟨_, rfl⟩
  have h2 : 2 ≤ n₀ := by have := TB.out.lt; omega
  rw [← en] at sW hBW b0 b2 b4 r0 hbl0 ⊢
  have EN := Lib.hid en
  have SW := Lib.hid sW
  have hle : n₀ ≤ w.heap.size := by omega
  have hleW : n₀ + 1 + 1 + 1 < W.heap.size := by omega
  clear en sW
  have hQ2 : Q < 2 ^ n := by have := HQ.out; omega
  have hT1 : Tab W := TB.out.below hBW h2
  have r1 : Row W n₀ (.slice (some ⟨n₀ + 1, 0, none⟩) n n) (ints (osets L [])) := by rw [HN.out]; rw [HN.out] at r0; exact r0
  have hgn : n₀ + 1 < W.heap.size := by omega
  refine wpIn_rangeFunc_ownF (α := Nd n Q) rfl (by omega) (gf := 76) (lb := #[.pointer (some ⟨n₀ + 1 + 1 + 1, 0, none⟩)]) rfl trivial (enters_of Tryd.func76 (by kernel_rfl) rfl)
    (nodes_stops _ (n₀ + 1 + 1 + 1) n Q n₀ (by omega) h6 hQ2 W hleW b4 hT1 h2 (by omega)) belowK_t (belowK_b (by omega)) (Below.refl _ _) (fun _ => rfl)
    (fun pre W => OthI n₀ (n₀ + 1) n (.slice (some ⟨blk, off, none⟩) n c) L Q pre W ∧ Below n₀ w W) (fun _ _ _ => False)
    (OwnFrom.and (Own.from (othI_own _ _ _ _ _ _) _) (ownFrom_below hle (by omega))) (fun _ _ _ _ _ hs _ _ => hs)
    ⟨⟨b0, b2, r1⟩, hBW⟩
    (fun x => { tmps := #[.slice (some ⟨blk, off, none⟩) n c, .pointer (some ⟨n₀, 0, none⟩), .slice none 0 0, .pointer (some ⟨n₀ + 1 + 1, 0, none⟩), .int .i64 (x.1 : Int), .slice (some ⟨blk, off, none⟩) n c, .int .i64 n, .slice (some ⟨n₀ + 1, 0, none⟩) n n, .slice (some ⟨blk, off, none⟩) n c,
      .func (.func 76) #[] #[.pointer (some ⟨n₀ + 1 + 1 + 1, 0, none⟩)], .int .i64 (x.1 : Int), undef, undef, undef, undef, undef, undef, undef, undef, undef, undef, undef, undef, undef, undef], defers := [] }) ?assign ?body ?done ?stop
  case assign =>
    intro l x W K hK
    gi_wp2
    exact hK
  case body =>
    rintro l pre x Wr ⟨⟨c0, c2, hr⟩, hB⟩ hlen
    obtain ⟨v, hvn, hvq⟩ := x
    dsimp only at hvn ⊢
    have hvL : v < L.length := by have := HN.out; omega
    obtain ⟨blk1, off1, hA1, hbl1, hc1⟩ := H.out v hvL
    have e1 : blk = blk1 ∧ off = off1 := by injection hA1 with e; injection e with e1 e2; exact ⟨e1, e2⟩
    obtain ⟨rfl, rfl⟩ := e1
    obtain ⟨X, P, Q', p, y, z, eX, hX64, hQ', pf, qf, f1, f2, ez⟩ := oth_step HG.out hvL
    rw [eX] at hc1
    have hQQ : Q' = Q := by have := HQ.out; rw [← HN.out] at hQ'; omega
    subst hQQ
    have hcv : Wr.cell? ⟨blk, off + v, none⟩ = some (.int .i64 X) := (hB.cell (p := ⟨blk, off + v, none⟩) hbl0).trans hc1
    obtain ⟨q1, q2⟩ := qf
    have hlen2 : v < (ints (osets L (valsN pre))).length := by rw [ints_length, osets_length]; exact hvL
    obtain ⟨old, eo⟩ : ∃ old, old = (ints (osets L (valsN pre)))[v]?.getD 0 := ⟨_, rfl⟩
    have hgc : Wr.cell? ⟨n₀ + 1, v, none⟩ = some (.int .i64 old) := by rw [eo]; exact hr.cellAt v hlen2
    have hgf : Wr.frozen? ⟨n₀ + 1, v, none⟩ = false := hr.frozenAt v hlen2
    have rs := hr.set v hlen2 (z : Int)
    rw [ints_set] at rs
    have es : (osets L (valsN pre)).set v z = osets L (valsN (pre ++ [(⟨v, hvn, hvq⟩ : Nd n Q')])) := by rw [valsN_snoc, osets_snoc, ez]
    rw [es] at rs
    have RS := Lib.hid rs
    have HR := Lib.hid hr
    have C0 := Lib.hid c0
    have C2 := Lib.hid c2
    have z0 := c0.cell
    have z2 := c2.cell
    have hi1 : (0 : Int) ≤ (v : Int) ∧ (v : Int) < (n : Int) := by omega
    have hmx : Tryd.prog.follows .mixedOrders = true := by kernel_rfl
    clear c0 c2 hr rs es eo hlen2 eX ez pf hQ' hA1 hbl1 hc1 hvL
    have gk := grown_drew (grown_set (World.grownBy.refl Wr (some (n₀ + 1))) v (.int .i64 (z : Int)))
    have FIN := Lib.hid (show KeepsOthers Wr (Wr.setCell ⟨n₀ + 1, v, none⟩ (.int .i64 (z : Int))).drew ∧ Below n₀ Wr (Wr.setCell ⟨n₀ + 1, v, none⟩ (.int .i64 (z : Int))).drew ∧
      (OthI n₀ (n₀ + 1) n (.slice (some ⟨blk, off, none⟩) n c) L Q' (pre ++ [(⟨v, hvn, hvq⟩ : Nd n Q')]) (Wr.setCell ⟨n₀ + 1, v, none⟩ (.int .i64 (z : Int))).drew ∧ Below n₀ w (Wr.setCell ⟨n₀ + 1, v, none⟩ (.int .i64 (z : Int))).drew) from
      ⟨(KeepsOthers.setCell _ _ _).trans (KeepsOthers.drew _), ((Below.refl n₀ Wr).setCell (p := ⟨n₀ + 1, v, none⟩) (by show n₀ ≤ n₀ + 1; omega) _).drew,
        ⟨C0.out.kept gk (fun e => by injection e; omega), C2.out.kept gk (fun e => by injection e; omega), RS.out⟩, (hB.setCell (p := ⟨n₀ + 1, v, none⟩) (by show n₀ ≤ n₀ + 1; omega) _).drew⟩)
    have HAL := Lib.hid (fun w => all_any (some ⟨blk, off, none⟩) n c Q' h6 HQ.out w)
    clear gk
    obtain ⟨w2, ew2⟩ : ∃ w2, w2 = Wr.drew := ⟨_, rfl⟩
    have hgc2 : w2.cell? ⟨n₀ + 1, v, none⟩ = some (.int .i64 old) := by rw [ew2]; exact hgc
    have hgf2 : w2.frozen? ⟨n₀ + 1, v, none⟩ = false := by rw [ew2]; exact hgf
    have EW2 := Lib.hid ew2
    clear ew2
    gi_wp2
    refine wpIn_tail_round 13 (by kernel_rfl) (by kernel_rfl) (by kernel_rfl) ?_
    simp only [List.take_succ_cons, List.take_zero, List.drop_succ_cons, List.drop_zero]
    still_step
    still_step
    still_step
    still_call ((HAL.out _).mono fun e w' ⟨he, hw⟩ => ⟨he, hw.symm⟩)
    repeat still_step
    refine wpStill_nil ?_
    rw [← EW2.out]
    gi_wp2
    rw [EW2.out]
    exact FIN.out
  case done =>
    rintro D xs Wr hD hS ⟨⟨c0, c2, hr⟩, hB⟩ hK
    have z2 := c2.cell
    have HS := Lib.hid hS
    have HR := Lib.hid hr
    clear hS hr
    gi_wp2
    refine ⟨by simp, .inl ⟨_, _, rfl, run_takeDeferred hK, ?_⟩⟩
    refine ⟨_, results_tmp rfl _ _ _, ?_⟩
    refine ⟨_, rfl, ?_, ?_⟩
    · rw [← EN.out]
      have h0 := ownsRow_putObj HR.out (.deferred none) hK rfl
      have e : ints (osets L (valsN xs)) = otherL L n := by
        rw [HS.out]
        have e2 : Q = 2 ^ n - 1 := by have := HQ.out; omega
        have e3 := nodes_every ⟨n, by omega⟩
        dsimp only at e3
        rw [e2, e3, HN.out, osets_all]
      rw [e] at h0
      exact h0
    · rw [← EN.out]
      exact hB.trans (belowK_b (w := w) hle Wr D _ _ (by have := EN.out; omega) hK rfl rfl)
  case stop =>
    rintro D cd pre W _ _ h _
    exact h.elim
end Go.Proofs.YtamabhdbcmjbjaaDoor
