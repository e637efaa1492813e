/- The program's twinBlocks: the sets of twins, each once. -/
import Derived.Test.YtdgceglbnfdhbaaDoorTwinsFn
import Derived.Test.YtdgceglbnfdhbaaDoorBlocks
import Derived.Test.YtdgceglbnfdhbaaDoorHeldRound
import Derived.Test.YtdgceglbnfdhbaaDoorBaseA
namespace Go.Proofs.YtdgceglbnfdhbaaDoor
open Go.RowKit Go.Shelf
attribute [local go_sem] Oper.semAt_some
set_option linter.unusedVariables false
set_option maxRecDepth 100000

/-- Some places set. -/
def tsets (L : List Int) (ps : List Nat) : List Nat := ps.foldl (fun acc v => acc.set v (twinL L v)) (List.replicate L.length 0)
theorem tsets_snoc (L : List Int) (ps : List Nat) (v : Nat) : tsets L (ps ++ [v]) = (tsets L ps).set v (twinL L v) := by simp [tsets]
theorem tsets_length (L : List Int) (ps : List Nat) : (tsets L ps).length = L.length := by
  induction ps using snoc_ind with
  | h0 => simp [tsets]
  | h1 l x ih => rw [tsets_snoc, List.length_set, ih]
theorem tsets_range (L : List Int) (k : Nat) (hk : k ≤ L.length) : tsets L (List.range k) = (List.range k).map (twinL L) ++ List.replicate (L.length - k) 0 := by
  induction k with
  | zero => simp [tsets]
  | succ k ih =>
    rw [List.range_succ, tsets_snoc, ih (by omega)]
    have hl : ((List.range k).map (twinL L)).length = k := by simp
    have e : L.length - k = (L.length - (k + 1)) + 1 := by omega
    rw [List.set_append_right _ _ (by omega), hl, Nat.sub_self, e, List.replicate_succ, List.set_cons_zero]
    simp
theorem tsets_at (L : List Int) {u : Nat} (hu : u < L.length) : at_ (tsets L (List.range L.length)) u = twinL L u := by
  rw [tsets_range L L.length (Nat.le_refl _), Nat.sub_self, List.replicate_zero, List.append_nil]
  unfold at_
  simp [hu]
def TbI (n₀ g n : Nat) (S : Value) (L : List Int) (Q : Nat) (pre : List (Nd n Q)) (W : World) : Prop :=
  Boxed W n₀ 44 S ∧ Boxed W (n₀ + 1 + 1) 22 (.slice (some ⟨g, 0, none⟩) n n) ∧ Row W n₀ (.slice (some ⟨g, 0, none⟩) n n) (ints (tsets L (valsN pre)))
theorem tbI_own (n₀ g n : Nat) (S : Value) (L : List Int) (Q : Nat) : Own (TbI n₀ g n S L Q) := fun s X Y row hs hg hr =>
  ⟨boxed_own _ _ (fun _ : Unit => _) () X Y row hs.1 hg hr, boxed_own _ _ (fun _ : Unit => _) () X Y row hs.2.1 hg hr, row_kept hs.2.2 hg hr⟩

set_option maxHeartbeats 4000000 in
theorem twinBlocks_in (A : Option Addr) (c : Nat) (L : List Int) (hg : IsGraph L) (w : World) (h : Seen w A L) (hT : Tab w) :
    CallsIn Fence.wide 12 Tryd.prog 42 #[.slice A L.length c] w (Gave w (ints (twinsL L))) := by
  have h1 := hg.1
  have h6 := hg.2.1
  have hbl := (twins_eq hg L.length (Nat.le_refl _)).1
  obtain ⟨blk, off, hA0, hbl0, _⟩ := h 0 (by omega)
  obtain ⟨n, hn⟩ : ∃ n, n = L.length := ⟨_, rfl⟩
  have hp := two_pos n
  obtain ⟨Q, hQ⟩ : ∃ Q, Q + 1 = 2 ^ n := ⟨2 ^ n - 1, by omega⟩
  have hmk := run_make_ints n (by omega)
  have hms : ∀ x, (madeW x n).heap.size = x.heap.size + 1 := fun x => madeW_size x n
  rw [← hn] at h1 h6 hbl ⊢
  subst hA0
  have X0 : Boxed (madeW (w.alloc (.cells #[.slice (some ⟨blk, off, none⟩) n c] 44)) n) w.heap.size 44 (.slice (some ⟨blk, off, none⟩) n c) := (Boxed.new w _ _).alloc _
  have x0 := X0.cell
  have HN := Lib.hid hn
  have H := Lib.hid h
  have HG := Lib.hid hg
  have HQ := Lib.hid hQ
  have TB := Lib.hid hT
  have HBL := Lib.hid hbl
  clear h hg hn hQ hT hp hbl
  refine callsIn_of_wp_marks Tryd.func42 rfl trivial ?_ rfl
  simp only [Tryd.ntmps42, List.size_toArray, List.length_cons, List.length_nil, Nat.reduceAdd, Nat.reduceSub, Array.replicate_succ, Array.replicate_zero, List.push_toArray, List.append_toArray, List.nil_append, List.cons_append]
  gi_wp2_with (refine ⟨trivial, ?_⟩; gi_at_call 52; refine (callsIn_wide.2 (nodes_any _ n c Q h6 HQ.out _)).mono ?_; rintro e w' ⟨rfl, rfl⟩)
  have R0 := madeW_row (w.alloc (.cells #[.slice (some ⟨blk, off, none⟩) n c] 44)) n (by omega)
  have M0 := madeW_below (w.alloc (.cells #[.slice (some ⟨blk, off, none⟩) n c] 44)) n
  have S0 := hms (w.alloc (.cells #[.slice (some ⟨blk, off, none⟩) n c] 44))
  clear hmk hms x0
  obtain ⟨w1, e1⟩ : ∃ w1, w1 = madeW (w.alloc (.cells #[.slice (some ⟨blk, off, none⟩) n c] 44)) n := ⟨_, rfl⟩
  rw [← e1] at R0 M0 S0 X0 ⊢
  rw [World.size_alloc] at R0 M0 S0
  have hB1 : Below w.heap.size w w1 := ((Below.refl _ w).alloc (Nat.le_refl _) _).trans (M0.mono (by omega))
  clear e1
  obtain ⟨W, eW⟩ : ∃ W, W = (w1.alloc (.cells #[.slice (some ⟨w.heap.size + 1, 0, none⟩) n n] 22)).alloc (.cells #[.int .i64 (Q : Nat)] 3) := ⟨_, rfl⟩
  have sW : W.heap.size = w.heap.size + 1 + 1 + 1 + 1 := by rw [eW]; simp [S0]
  have hBW : Below w.heap.size w W := by rw [eW]; exact (hB1.alloc (by omega) _).alloc (by simp; omega) _
  have b0 : Boxed W w.heap.size 44 (.slice (some ⟨blk, off, none⟩) n c) := by rw [eW]; exact (X0.alloc _).alloc _
  have b2 : Boxed W (w.heap.size + 1 + 1) 22 (.slice (some ⟨w.heap.size + 1, 0, none⟩) n n) := by
    rw [eW]; have h := Boxed.new w1 22 (.slice (some ⟨w.heap.size + 1, 0, none⟩) n n); rw [S0] at h; exact h.alloc _
  have b4 : W.cell? ⟨w.heap.size + 1 + 1 + 1, 0, none⟩ = some (.int .i64 (Q : Nat)) := by
    rw [eW]; have h := Boxed.new (w1.alloc (.cells #[.slice (some ⟨w.heap.size + 1, 0, none⟩) n n] 22)) 3 (.int .i64 (Q : Nat)); rw [World.size_alloc, S0] at h; exact h.cell
  have r0 : Row W w.heap.size (.slice (some ⟨w.heap.size + 1, 0, none⟩) n n) (ints (List.replicate n 0)) := by
    rw [eW]; exact (((R0.mono (by omega)).alloc _).alloc _)
  rw [← eW]
  clear eW S0 X0 R0 M0 hB1
  obtain ⟨n₀, en⟩ : ∃ n₀, n₀ = w.heap.size := ⟨_, rfl⟩
  have h2 : 2 ≤ n₀ := by have := TB.out.lt; omega
  rw [← en] at sW hBW b0 b2 b4 r0 hbl0 ⊢
  have EN := Lib.hid en
  have SW := Lib.hid sW
  have hle : n₀ ≤ w.heap.size := by omega
  have hleW : n₀ + 1 + 1 + 1 < W.heap.size := by omega
  clear en sW
  have hQ2 : Q < 2 ^ n := by have := HQ.out; omega
  have hT1 : Tab W := TB.out.below hBW h2
  have r1 : Row W n₀ (.slice (some ⟨n₀ + 1, 0, none⟩) n n) (ints (tsets L [])) := by rw [HN.out]; rw [HN.out] at r0; exact r0
  have hgn : n₀ + 1 < W.heap.size := by omega
  refine wpIn_rangeFunc_ownF (α := Nd n Q) rfl (by omega) (gf := 70) (lb := #[.pointer (some ⟨n₀ + 1 + 1 + 1, 0, none⟩)]) rfl trivial (enters_of Tryd.func70 (by kernel_rfl) rfl)
    (nodes_stops _ (n₀ + 1 + 1 + 1) n Q n₀ (by omega) h6 hQ2 W hleW b4 hT1 h2 (by omega)) belowK_t (belowK_b (by omega)) (Below.refl _ _) (fun _ => rfl)
    (fun pre W => TbI n₀ (n₀ + 1) n (.slice (some ⟨blk, off, none⟩) n c) L Q pre W ∧ Below n₀ w W) (fun _ _ _ => False)
    (OwnFrom.and (Own.from (tbI_own _ _ _ _ _ _) _) (ownFrom_below hle (by omega))) (fun _ _ _ _ _ hs _ _ => hs)
    ⟨⟨b0, b2, r1⟩, hBW⟩
    (fun x => { tmps := #[.slice (some ⟨blk, off, none⟩) n c, .pointer (some ⟨n₀, 0, none⟩), .slice none 0 0, .pointer (some ⟨n₀ + 1 + 1, 0, none⟩), .int .i64 (x.1 : Int), .slice (some ⟨blk, off, none⟩) n c, .int .i64 n, .slice (some ⟨n₀ + 1, 0, none⟩) n n, .slice (some ⟨blk, off, none⟩) n c,
      .func (.func 70) #[] #[.pointer (some ⟨n₀ + 1 + 1 + 1, 0, none⟩)], .int .i64 (x.1 : Int), undef, undef, undef, undef, undef, undef, undef, undef], defers := [] }) ?assign ?body ?done ?stop
  case assign =>
    intro l x W K hK
    gi_wp2
    exact hK
  case body =>
    rintro l pre x Z ⟨⟨c0, c2, hr⟩, hB⟩ hlen
    obtain ⟨v, hvn, hvq⟩ := x
    dsimp only at hvn ⊢
    have hvL : v < L.length := by have := HN.out; omega
    have hsZ : Seen Z.drew (some ⟨blk, off, none⟩) L := H.out.below (by rw [← EN.out]; exact hB.drew)
    have hTZ : Tab Z.drew := TB.out.below hB.drew (by omega)
    have HTW := Lib.hid (callsIn_wide.1 (twins_in (some ⟨blk, off, none⟩) c v L HG.out hvL Z.drew hsZ hTZ))
    rw [← HN.out] at HTW
    obtain ⟨z, ez⟩ : ∃ z, z = twinL L v := ⟨_, rfl⟩
    rw [← ez] at HTW
    have hlen2 : v < (ints (tsets L (valsN pre))).length := by rw [ints_length, tsets_length]; exact hvL
    have es : (tsets L (valsN pre)).set v z = tsets L (valsN (pre ++ [(⟨v, hvn, hvq⟩ : Nd n Q)])) := by rw [valsN_snoc, tsets_snoc, ez]
    have HES := Lib.hid es
    have HLN := Lib.hid hlen2
    have HR := Lib.hid hr
    have C0 := Lib.hid c0
    have C2 := Lib.hid c2
    have HB := Lib.hid hB
    have z0 : Z.drew.cell? ⟨n₀, 0, none⟩ = some (.slice (some ⟨blk, off, none⟩) n c) := c0.cell
    have z2 : Z.drew.cell? ⟨n₀ + 1 + 1, 0, none⟩ = some (.slice (some ⟨n₀ + 1, 0, none⟩) n n) := c2.cell
    have hS0 : Z.drew.cell? ⟨n₀, 0, none⟩ = some (.slice (some ⟨blk, off, none⟩) n c) ∧ Z.drew.cell? ⟨n₀ + 1 + 1, 0, none⟩ = some (.slice (some ⟨n₀ + 1, 0, none⟩) n n) := ⟨z0, z2⟩
    have hi1 : (0 : Int) ≤ (v : Int) ∧ (v : Int) < (n : Int) := by omega
    clear c0 c2 hr es hlen2 ez hsZ hTZ hvL hB
    gi_wp2
    refine wpIn_held_round 5 (fun W' => W'.cell? ⟨n₀, 0, none⟩ = some (.slice (some ⟨blk, off, none⟩) n c) ∧ W'.cell? ⟨n₀ + 1 + 1, 0, none⟩ = some (.slice (some ⟨n₀ + 1, 0, none⟩) n n)) (by kernel_rfl) (by rfl) (by kernel_rfl) (by kernel_rfl) (by kernel_rfl) (by kernel_rfl) ?_
    simp only [List.take_succ_cons, List.take_zero, List.drop_succ_cons, List.drop_zero]
    refine wpAnyH_take (i := 0) (v := .slice (some ⟨n₀ + 1, 0, none⟩) n n) rfl (by kernel_rfl) (by kernel_rfl) (by kernel_rfl) (fun _ _ _ h => h) (Or.inl ⟨by rfl, ?_⟩) hS0 ?_
    · rintro w' ⟨q0, q1⟩
      go_simp
    simp only [Act.put, List.setIfInBounds_toArray]
    refine wpAnyH_take (i := 1) (v := .int .i64 (v : Int)) rfl (by kernel_rfl) (by kernel_rfl) (by kernel_rfl) (fun _ _ _ h => h) (Or.inl ⟨by rfl, ?_⟩) hS0 ?_
    · rintro w' ⟨q0, q1⟩
      go_simp
    simp only [Act.put, List.setIfInBounds_toArray]
    refine wpAnyH_take (i := 2) (v := .slice (some ⟨blk, off, none⟩) n c) rfl (by kernel_rfl) (by kernel_rfl) (by kernel_rfl) (fun _ _ _ h => h) (Or.inl ⟨by rfl, ?_⟩) hS0 ?_
    · rintro w' ⟨q0, q1⟩
      go_simp
    simp only [Act.put, List.setIfInBounds_toArray]
    refine wpAnyH_take (i := 3) (v := .int .i64 (v : Int)) rfl (by kernel_rfl) (by kernel_rfl) (by kernel_rfl) (fun _ _ _ h => h) (Or.inl ⟨by rfl, ?_⟩) hS0 ?_
    · rintro w' ⟨q0, q1⟩
      go_simp
    simp only [Act.put, List.setIfInBounds_toArray]
    refine wpAnyH_rest 4 1 (by rfl) (by kernel_rfl) ?_
    simp only [List.drop_succ_cons, List.drop_zero]
    refine tailH_cons ?_
    go_wp2_with fail
    refine HTW.out.mono ?_
    rintro e w1 ⟨rfl, hb1⟩
    have hz : Below Z.heap.size Z w1 := (Below.refl _ Z).drew.trans hb1
    have k0 : Boxed w1 n₀ 44 (.slice (some ⟨blk, off, none⟩) n c) := (hz.block n₀ C0.out.lt).trans C0.out
    have k2 : Boxed w1 (n₀ + 1 + 1) 22 (.slice (some ⟨n₀ + 1, 0, none⟩) n n) := (hz.block (n₀ + 1 + 1) C2.out.lt).trans C2.out
    have kr : Row w1 n₀ (.slice (some ⟨n₀ + 1, 0, none⟩) n n) (ints (tsets L (valsN pre))) := HR.out.below hz
    obtain ⟨old, eo⟩ : ∃ old, old = (ints (tsets L (valsN pre)))[v]?.getD 0 := ⟨_, rfl⟩
    have hgc : w1.cell? ⟨n₀ + 1, v, none⟩ = some (.int .i64 old) := by rw [eo]; exact kr.cellAt v HLN.out
    have hgf : w1.frozen? ⟨n₀ + 1, v, none⟩ = false := kr.frozenAt v HLN.out
    have q0 := k0.cell
    have q2 := k2.cell
    have K0 := Lib.hid k0
    have K2 := Lib.hid k2
    have KR := Lib.hid kr
    have HZ := Lib.hid hz
    clear hz k0 k2 kr hb1 eo
    go_wp2
    refine ⟨⟨q0, q2⟩, ?_⟩
    clear z0 z2 hS0 q0 q2
    change wpListIn _ _ _ _ _ _ _ _
    gi_wp2
    have g1 := grown_set (World.grownBy.refl w1 (some (n₀ + 1))) v (.int .i64 (z : Int))
    have rs := KR.out.set v HLN.out (z : Int)
    rw [ints_set, HES.out] at rs
    have hnZ : n₀ ≤ Z.heap.size := by have := C0.out.lt; omega
    have hbz : Below n₀ Z (w1.setCell ⟨n₀ + 1, v, none⟩ (.int .i64 (z : Int))) := (HZ.out.mono hnZ).setCell (p := ⟨n₀ + 1, v, none⟩) (by show n₀ ≤ n₀ + 1; omega) _
    refine ⟨(KeepsOthers.of_grownBy (row := none) ⟨HZ.out.os, HZ.out.tape, HZ.out.output, HZ.out.size, fun k hk _ => HZ.out.block k hk⟩ (fun _ _ e => by cases e)).trans (KeepsOthers.setCell _ _ _), hbz, ⟨K0.out.kept g1 (fun e => by injection e; omega), K2.out.kept g1 (fun e => by injection e; omega), rs⟩, HB.out.trans hbz⟩
  case done =>
    rintro D xs Z hD hS ⟨⟨c0, c2, hr⟩, hB⟩ hK
    have z2 := c2.cell
    have hT3 : valsN xs = List.range n := by
      have e2 : Q = 2 ^ n - 1 := by have := HQ.out; omega
      have e3 := full_comp ⟨n, by omega⟩
      dsimp only at e3
      rw [hS, e2, e3]
    have hsn : Seen Z (some ⟨n₀ + 1, 0, none⟩) (ints (tsets L (valsN xs))) := by
      obtain ⟨A', c', e, s⟩ := hr.seen
      injection e with e1 e2 e3
      rw [e1]
      exact s
    have hrng : tsets L (valsN xs) = tsets L (List.range L.length) := by rw [hT3, HN.out]
    have HBK := Lib.hid (blocks_any (some ⟨n₀ + 1, 0, none⟩) n n (tsets L (valsN xs)) (by rw [tsets_length]; exact HN.out.symm) h6 (fun u hu => by rw [hrng, tsets_at L (by rw [← HN.out]; exact hu), HN.out]; exact twin_lt L u) Z hsn)
    have hbe : (blkTo (at_ (tsets L (valsN xs))) n).1 = twinsL L := by
      rw [hrng, blkTo_congr (g := twinL L) (n := n) (fun u hu => tsets_at L (by rw [← HN.out]; exact hu)) n (Nat.le_refl _), HBL.out, HN.out]
      rfl
    rw [hbe] at HBK
    have HB := Lib.hid hB
    have C0 := Lib.hid c0
    have KK := Lib.hid hK
    clear hS c0 c2 hr hB hK hsn hrng hbe hT3
    gi_wp2_with (refine ⟨trivial, ?_⟩; gi_at_call 60; refine (callsIn_wide.2 HBK.out).mono ?_; rintro e w3 ⟨v3, rfl, r3, b3⟩)
    have hDZ := (Array.getElem?_eq_some_iff.1 KK.out).1
    have hK3 : w3.heap[D]? = some (.deferred (some [])) := (b3.block D hDZ).trans KK.out
    refine ⟨by simp, .inl ⟨_, _, rfl, run_takeDeferred hK3, ?_⟩⟩
    refine ⟨_, results_tmp rfl _ _ _, ?_⟩
    have hnZ : n₀ ≤ Z.heap.size := by have := HB.out.size; omega
    refine ⟨_, rfl, ?_, ?_⟩
    · rw [← EN.out]
      exact ownsRow_putObj (Row.mono r3 hnZ) (.deferred none) hK3 rfl
    · rw [← EN.out]
      have h4 : Below n₀ w w3 := HB.out.trans (b3.mono hnZ)
      exact h4.trans (belowK_b (w := w) hle w3 D _ _ (by have := EN.out; omega) hK3 rfl rfl)
  case stop =>
    rintro D cd pre W _ _ h _
    exact h.elim
end Go.Proofs.YtdgceglbnfdhbaaDoor
