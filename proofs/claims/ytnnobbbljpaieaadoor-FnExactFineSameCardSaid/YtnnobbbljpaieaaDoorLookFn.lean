/- The program's look: a node's colour, and those of its neighbours in order. -/
import Derived.Test.YtnnobbbljpaieaaDoorWideTail
import Derived.Test.YtnnobbbljpaieaaDoorLookMath
import Derived.Test.YtnnobbbljpaieaaDoorOnesT
import Derived.Test.YtnnobbbljpaieaaDoorSortInts
import Derived.Test.YtnnobbbljpaieaaDoorLess
namespace Go.Proofs.YtnnobbbljpaieaaDoor
open Go Go.RowKit Go.Shelf
attribute [local go_sem] Oper.semAt_some
set_option linter.unusedVariables false
set_option maxRecDepth 100000

/-- How a call that tells a look ends: a slice of memory of its own, as long as its room. -/
def LookOut (w : World) (K : List Int) (e : Ending) (w' : World) : Prop :=
  ∃ g, e = .returned (.slice (some ⟨g, 0, none⟩) K.length K.length) ∧ w.heap.size ≤ g ∧ SeenB w'.heap.size w' (some ⟨g, 0, none⟩) K ∧ Below w.heap.size w w'

/-- Between two rounds: the box, and the colours with some places marked. -/
def LookI (n₀ n m s : Nat) (C : List Int) (pre : List (Nd m s)) (W : World) : Prop :=
  Boxed W (n₀ + 1) 22 (.slice (some ⟨n₀, 0, none⟩) n n) ∧ Row W n₀ (.slice (some ⟨n₀, 0, none⟩) n n) (markT C (valsN pre))
theorem lookI_own (n₀ n m s : Nat) (C : List Int) : Own (LookI n₀ n m s C) := fun pre X Y row hs hg hr =>
  ⟨boxed_own _ _ (fun _ : Unit => _) () X Y row hs.1 hg hr, row_kept hs.2 hg hr⟩

set_option maxHeartbeats 4000000 in
theorem look_in (A A' : Option Addr) (c c' : Nat) (L C : List Int) (hN : Net L) (hlen : C.length = L.length) (hC : Hues C) (v : Nat) (hv : v < L.length) (w : World) (hL : Seen w A L) (hCs : Seen w A' C) (hT : TabT w) :
    CallsIn Fence.wide 6 Tryd.prog 51 #[.slice A L.length c, .int .i64 v, .slice A' C.length c'] w (LookOut w (lookOf L C v)) := by
  obtain ⟨blk, off, hA0, hbl, hcv⟩ := hL v hv
  obtain ⟨blk', off', hA0', hbl', hcc⟩ := hCs v (by omega)
  subst hA0
  subst hA0'
  obtain ⟨hXi, hXl, _⟩ := hN.ent hv
  have hfew := few_near hN hv
  obtain ⟨n, hn⟩ : ∃ n, n = L.length := ⟨_, rfl⟩
  obtain ⟨Q, hQ⟩ : ∃ Q, Q + 1 = 2 ^ L.length := ⟨2 ^ L.length - 1, by have := two_pos L.length; omega⟩
  obtain ⟨k0, hsort⟩ := look_sorted hN hlen hC hv hQ
  have hcut := look_cut (L := L) (C := C) (v := v) (k := k0)
  have hLK := lookOf_length L C v
  rw [hXi] at hcv
  obtain ⟨X, eX⟩ : ∃ X, X = nset L v := ⟨_, rfl⟩
  rw [← eX] at hXl hcv hfew hsort hcut hLK
  have h12 := hN.2.1
  have h1n := hN.1
  have hs4096 : 2 ^ L.length ≤ 4096 := pow_le L.length 12 h12
  have hX4096 : X < 4096 := by omega
  have hQ4096 : Q < 4096 := by omega
  have hop := less_op Q X (by omega) (by omega)
  have hsm := less_small Q X L.length hQ
  obtain ⟨s, es⟩ : ∃ s, s = less Q X := ⟨_, rfl⟩
  rw [← es] at hop hsm hsort
  obtain ⟨K, eK⟩ : ∃ K, K = lookOf L C v := ⟨_, rfl⟩
  rw [← eK] at hLK hcut ⊢
  obtain ⟨z, ez⟩ : ∃ z, z = cntT12 X := ⟨_, rfl⟩
  have ez' : (nodesT X).length = z := by rw [ez]; rfl
  rw [ez'] at hfew hcut hLK
  have hcol : C[v]?.getD 0 = hue C v := rfl
  rw [hcol] at hcc
  obtain ⟨col, ecol⟩ : ∃ col, col = hue C v := ⟨_, rfl⟩
  rw [← ecol] at hcc hcut
  rw [hlen]
  rw [← hn] at h12 h1n hv hlen hQ hfew hXl hsm ⊢
  have HN := Lib.hid hn
  have HL := Lib.hid hL
  have HCS := Lib.hid hCs
  have HSORT := Lib.hid hsort
  have HCUT := Lib.hid hcut
  have HLK := Lib.hid hLK
  have HLEN := Lib.hid hlen
  have HQ := Lib.hid hQ
  have TB := Lib.hid hT
  have HOP := Lib.hid hop
  have HSM := Lib.hid hsm
  have EZ := Lib.hid ez
  have hmk := run_make_ints n (by omega)
  clear hL hCs hsort hcut hLK hlen hQ hT hN hC eX es eK ecol hn hop hXi hXl hsm hs4096 ez ez' hcol
  have HAL := Lib.hid (fun w => allT_any (some ⟨blk, off, none⟩) n c Q h12 HQ.out w)
  have HNI := Lib.hid (fun w => nodesIn_any s w)
  have HDG := Lib.hid (fun (w : World) (hc : w.cell? ⟨blk, off + v, none⟩ = some (.int .i64 X)) => degreeT_any blk off n c v X w hX4096 hv hc)
  obtain ⟨w1, e1⟩ : ∃ w1, w1 = madeW w n := ⟨_, rfl⟩
  have R0 : Row w1 w.heap.size (.slice (some ⟨w.heap.size, 0, none⟩) n n) (ints (List.replicate n 0)) := by rw [e1]; exact madeW_row w n (by omega)
  have M0 : Below w.heap.size w w1 := by rw [e1]; exact madeW_below w n
  have S0 : w1.heap.size = w.heap.size + 1 := by rw [e1]; exact madeW_size w n
  have hmk1 : (Instr.makeSlice 22 (.int .i64 (n : Int)) (.int .i64 (n : Int))).run Tryd.prog w = .ok (.slice (some ⟨w.heap.size, 0, none⟩) n n) w1 := by rw [e1]; exact hmk w
  clear hmk e1
  obtain ⟨n₀, en⟩ : ∃ n₀, n₀ = w.heap.size := ⟨_, rfl⟩
  have h2 : 2 ≤ n₀ := by have := TB.out.lt; omega
  rw [← en] at R0 M0 S0 hmk1 hbl hbl'
  have EN := Lib.hid en
  have hle : n₀ ≤ w.heap.size := by omega
  clear en
  have X0 : Boxed (w1.alloc (.cells #[.slice (some ⟨n₀, 0, none⟩) n n] 22)) (n₀ + 1) 22 (.slice (some ⟨n₀, 0, none⟩) n n) := by
    have h := Boxed.new w1 22 (.slice (some ⟨n₀, 0, none⟩) n n); rw [S0] at h; exact h
  have x0 := X0.cell
  have R1 := Lib.hid (R0.alloc (.cells #[.slice (some ⟨n₀, 0, none⟩) n n] 22))
  have M1 := Lib.hid (M0.alloc (by omega) (.cells #[.slice (some ⟨n₀, 0, none⟩) n n] 22))
  have S1 : (w1.alloc (.cells #[.slice (some ⟨n₀, 0, none⟩) n n] 22)).heap.size = n₀ + 1 + 1 := by rw [World.size_alloc, S0]
  have XX0 := Lib.hid X0
  have SE1 : Hid (Seen (w1.alloc (.cells #[.slice (some ⟨n₀, 0, none⟩) n n] 22)) (some ⟨blk', off', none⟩) C) := Lib.hid (HCS.out.below (by have h := M1.out; rw [← EN.out]; exact h))
  clear X0 R0 M0
  refine callsIn_of_wp_marks Tryd.func51 rfl trivial ?_ rfl
  simp only [Tryd.ntmps51, List.size_toArray, List.length_cons, List.length_nil, Nat.reduceAdd, Nat.reduceSub, Array.replicate_succ, Array.replicate_zero, List.push_toArray, List.append_toArray, List.nil_append, List.cons_append]
  gi_wp2_with (refine copyIn_whole rfl (.tmp 13) (.tmp 14) rfl _ n₀ n₀ n n (ints (List.replicate n 0)) C (by simp [ints]) HLEN.out _ _ rfl rfl R1.out SE1.out (by omega) ?_; intro w2 hr2 hb2 hk2 hs2)
  have hcv2 : w2.drew.cell? ⟨blk, off + v, none⟩ = some (.int .i64 X) := (hb2.out.cell (p := ⟨blk, off + v, none⟩) hbl).trans ((M1.out.cell (p := ⟨blk, off + v, none⟩) hbl).trans hcv)
  have X2 : Boxed w2.drew (n₀ + 1) 22 (.slice (some ⟨n₀, 0, none⟩) n n) := (hk2.out (n₀ + 1) (by omega)).trans XX0.out
  have R2 : Row w2.drew n₀ (.slice (some ⟨n₀, 0, none⟩) n n) C := hr2.out.drewN 1
  have M2 : Below n₀ w w2.drew := (M1.out.trans hb2.out).drew
  have S2 : w2.drew.heap.size = n₀ + 1 + 1 := by rw [← S1, ← hs2]; rfl
  have i1 : (0 : Int) ≤ (v : Int) ∧ (v : Int) < (n : Int) := by omega
  gi_wp2
  refine wpIn_tail_wide (by omega) 6 (by kernel_rfl) (by kernel_rfl) (by kernel_rfl) ?_
  obtain ⟨w3, ew3⟩ : ∃ w3, w3 = w2.drew := ⟨_, rfl⟩
  rw [← ew3] at hcv2 X2 R2 M2 S2 ⊢
  clear ew3 hr2 hb2 hk2 hs2 SE1 R1 M1 S1 XX0 x0
  simp only [List.take_succ_cons, List.take_zero, List.drop_succ_cons, List.drop_zero]
  still_step
  still_call ((HAL.out _).mono fun e w' ⟨he, hw⟩ => ⟨he, hw.symm⟩)
  repeat still_step
  refine wpStill_nil ?_
  have hop := HOP.out
  gi_wp2_with (refine ⟨trivial, ?_⟩; gi_at_call 34; refine (callsIn_wide.2 (HNI.out _)).mono ?_; rintro e w' ⟨rfl, rfl⟩)
  clear hop
  obtain ⟨W, eW⟩ : ∃ W, W = w3.alloc (.cells #[.int .i64 (s : Nat)] 3) := ⟨_, rfl⟩
  have sW : W.heap.size = n₀ + 1 + 1 + 1 := by rw [eW, World.size_alloc, S2]
  have hBW : Below n₀ w W := by rw [eW]; exact M2.alloc (by omega) _
  have b1 : Boxed W (n₀ + 1) 22 (.slice (some ⟨n₀, 0, none⟩) n n) := by rw [eW]; exact X2.alloc _
  have r0 : Row W n₀ (.slice (some ⟨n₀, 0, none⟩) n n) (markT C (valsN ([] : List (Nd n s)))) := by rw [eW]; exact R2.alloc _
  have b2 : W.cell? ⟨n₀ + 1 + 1, 0, none⟩ = some (.int .i64 (s : Nat)) := by
    rw [eW]; have h := Boxed.new w3 3 (.int .i64 (s : Nat)); rw [S2] at h; exact h.cell
  rw [← eW]
  clear eW S2 X2 R2 M2 hcv2
  have hleW : n₀ + 1 + 1 < W.heap.size := by omega
  have hT1 : TabT W := TB.out.below hBW h2
  refine wpIn_rangeFunc_ownF (α := Nd n s) rfl (by omega) (gf := 42) (lb := #[.pointer (some ⟨n₀ + 1 + 1, 0, none⟩)]) rfl trivial (enters_of Tryd.func42 (by kernel_rfl) rfl)
    (nodesT_stops _ (n₀ + 1 + 1) n s n₀ (by omega) h12 HSM.out W hleW b2 hT1 h2 (by omega)) belowK_t (belowK_b (by omega)) (Below.refl _ _) (fun _ => rfl)
    (fun pre W => LookI n₀ n n s C pre W ∧ Below n₀ w W) (fun _ _ _ => False)
    (OwnFrom.and (Own.from (lookI_own _ _ _ _ _) _) (ownFrom_below hle (by omega))) (fun _ _ _ _ _ hs _ _ => hs)
    ⟨⟨b1, r0⟩, hBW⟩
    (fun x => { tmps := #[.slice (some ⟨blk, off, none⟩) n c, .int .i64 (v : Int), .slice (some ⟨blk', off', none⟩) n c', undef, undef, undef, .slice none 0 0, .pointer (some ⟨n₀ + 1, 0, none⟩), .int .i64 (x.1 : Int), undef,
      .slice (some ⟨blk', off', none⟩) n c', .int .i64 (n : Int), .slice (some ⟨n₀, 0, none⟩) n n, .slice (some ⟨n₀, 0, none⟩) n n, .slice (some ⟨blk', off', none⟩) n c', .int .i64 (n : Int),
      .slice (some ⟨blk, off, none⟩) n c, .int .i64 (Q : Nat), .slice (some ⟨blk, off, none⟩) n c, .int .i64 (v : Int), .pointer (some ⟨blk, off + v, none⟩), .int .i64 (X : Nat), .int .i64 (s : Nat),
      .func (.func 42) #[] #[.pointer (some ⟨n₀ + 1 + 1, 0, none⟩)], .int .i64 (x.1 : Int),
      undef, undef, undef, undef, undef, undef, undef, undef, undef, undef, undef, undef, undef, undef, undef, undef, undef, undef, undef, undef, undef, undef], defers := [] }) ?assign ?body ?done ?stop
  case assign =>
    intro l x W K hK
    gi_wp2
    exact hK
  case body =>
    rintro l pre x Z ⟨⟨c1, hr⟩, hB⟩ hlen
    obtain ⟨u, hun, huq⟩ := x
    dsimp only at hun ⊢
    have hu : u < (markT C (valsN pre)).length := by rw [markT_length, HLEN.out]; exact hun
    obtain ⟨old, eo⟩ : ∃ old, old = (markT C (valsN pre))[u]?.getD 0 := ⟨_, rfl⟩
    have hgc : Z.cell? ⟨n₀, u, none⟩ = some (.int .i64 old) := by rw [eo]; exact hr.cellAt u hu
    have hgf : Z.frozen? ⟨n₀, u, none⟩ = false := hr.frozenAt u hu
    have rs := hr.set u hu 1001
    rw [← markT_snoc, ← valsN_snoc (l := pre) (x := (⟨u, hun, huq⟩ : Nd n s))] at rs
    have z1 := c1.cell
    have hi1 : (0 : Int) ≤ (u : Int) ∧ (u : Int) < (n : Int) := by omega
    have gk := grown_set (World.grownBy.refl Z (some n₀)) u (.int .i64 1001)
    have FIN := Lib.hid (show KeepsOthers Z (Z.setCell ⟨n₀, u, none⟩ (.int .i64 1001)) ∧ Below n₀ Z (Z.setCell ⟨n₀, u, none⟩ (.int .i64 1001)) ∧
      (LookI n₀ n n s C (pre ++ [(⟨u, hun, huq⟩ : Nd n s)]) (Z.setCell ⟨n₀, u, none⟩ (.int .i64 1001)) ∧ Below n₀ w (Z.setCell ⟨n₀, u, none⟩ (.int .i64 1001))) from
      ⟨KeepsOthers.setCell _ _ _, (Below.refl n₀ Z).setCell (p := ⟨n₀, u, none⟩) (Nat.le_refl _) _,
        ⟨c1.kept gk (fun e => by injection e; omega), rs⟩, hB.setCell (p := ⟨n₀, u, none⟩) (Nat.le_refl _) _⟩)
    clear gk c1 hr rs hu eo hlen
    gi_wp2
    exact FIN.out
  case done =>
    rintro D xs Z hD hS ⟨⟨c1, hr⟩, hB⟩ hK
    rw [hS] at hr
    have hml : (markT C (nodesT s)).length = n := by rw [markT_length, HLEN.out]
    obtain ⟨M, eM⟩ : ∃ M, M = markT C (nodesT s) := ⟨_, rfl⟩
    have hsort := HSORT.out
    rw [← eM] at hr hml hsort
    have hu : v < M.length := by omega
    obtain ⟨old, eo⟩ : ∃ old, old = M[v]?.getD 0 := ⟨_, rfl⟩
    have hgc : Z.cell? ⟨n₀, v, none⟩ = some (.int .i64 old) := by rw [eo]; exact hr.cellAt v hu
    have hgf : Z.frozen? ⟨n₀, v, none⟩ = false := hr.frozenAt v hu
    have rs := hr.set v hu (-1)
    have gk := grown_set (World.grownBy.refl Z (some n₀)) v (.int .i64 (-1))
    have z1 := c1.cell
    have hDn : D ≠ n₀ := by omega
    have K1 : Hid ((Z.setCell ⟨n₀, v, none⟩ (.int .i64 (-1))).heap[D]? = some (.deferred (some []))) := Lib.hid ((Below.heap_setCell _ _ _ _ (fun e => hDn (by simp [e]))).trans hK)
    have C1 : Hid (Boxed (Z.setCell ⟨n₀, v, none⟩ (.int .i64 (-1))) (n₀ + 1) 22 (.slice (some ⟨n₀, 0, none⟩) n n)) := Lib.hid (c1.kept gk (fun e => by injection e; omega))
    have B1 : Hid (Below n₀ w (Z.setCell ⟨n₀, v, none⟩ (.int .i64 (-1)))) := Lib.hid (hB.setCell (p := ⟨n₀, v, none⟩) (Nat.le_refl _) _)
    have SO := Lib.hid (sortI_any n₀ _ (M.set v (-1)) (by rw [List.length_set]; omega) _ rs)
    rw [hsort] at SO
    have hdl : D < Z.heap.size := (Array.getElem?_eq_some_iff.1 hK).1
    have hi1 : (0 : Int) ≤ (v : Int) ∧ (v : Int) < (n : Int) := by omega
    obtain ⟨F, eF⟩ : ∃ F, F = -1 :: (sortL (nbHues L C v) ++ List.replicate k0 1001) := ⟨_, rfl⟩
    have hcut := HCUT.out
    rw [← eF] at SO hcut
    have hFl : F.length = n := by
      have h := congrArg List.length hsort
      rw [← eF, sortL_length, List.length_set] at h
      omega
    have HCT := Lib.hid hcut
    clear gk c1 hr rs hS hK hB hsort eM eF eo hcut
    gi_wp2
    refine ⟨trivial, ?_⟩
    refine (callsIn_wide.2 SO.out).mono ?_
    rintro e w5 ⟨rfl, r5, g5'⟩
    have g5 : (Z.setCell ⟨n₀, v, none⟩ (.int .i64 (-1))).grownBy w5 (some n₀) := g5'
    clear g5'
    have hdl1 : D < (Z.setCell ⟨n₀, v, none⟩ (.int .i64 (-1))).heap.size := by simpa using hdl
    have K5 : w5.heap[D]? = some (.deferred (some [])) := (g5.block D hdl1 (fun e => hDn (by injection e))).trans K1.out
    have C5 : Boxed w5 (n₀ + 1) 22 (.slice (some ⟨n₀, 0, none⟩) n n) := C1.out.kept g5 (fun e => by injection e; omega)
    have hs1 : n₀ ≤ (Z.setCell ⟨n₀, v, none⟩ (.int .i64 (-1))).heap.size := by omega
    have B5 : Below n₀ w w5 := B1.out.grown g5 hs1 (fun k hk => by injection hk with h; exact Nat.le_of_eq h)
    have hn0 : n₀ < w5.heap.size := by have h := (Array.getElem?_eq_some_iff.1 C5).1; omega
    obtain ⟨w6, ew6⟩ : ∃ w6, w6 = w5.drew := ⟨_, rfl⟩
    have r6 : Row w6 n₀ (.slice (some ⟨n₀, 0, none⟩) n n) F := by rw [ew6]; exact r5.drewN 1
    have K6 : w6.heap[D]? = some (.deferred (some [])) := by rw [ew6]; exact K5
    have C6 : Boxed w6 (n₀ + 1) 22 (.slice (some ⟨n₀, 0, none⟩) n n) := by rw [ew6]; exact C5
    have B6 : Below n₀ w w6 := by rw [ew6]; exact B5.drew
    have z6 := C6.cell
    have hcc6 : w6.cell? ⟨blk', off' + v, none⟩ = some (.int .i64 col) := (B6.cell (p := ⟨blk', off' + v, none⟩) hbl').trans hcc
    obtain ⟨o2, eo2⟩ : ∃ o2, o2 = F[0]?.getD 0 := ⟨_, rfl⟩
    have hgc6 : w6.cell? ⟨n₀, 0, none⟩ = some (.int .i64 o2) := by rw [eo2]; exact r6.cellAt 0 (by omega)
    have hgf6 : w6.frozen? ⟨n₀, 0, none⟩ = false := r6.frozenAt 0 (by omega)
    have rs6 := r6.set 0 (by omega) col
    have gk6 := grown_set (World.grownBy.refl w6 (some n₀)) 0 (.int .i64 col)
    have K7 := Lib.hid ((Below.heap_setCell w6 ⟨n₀, 0, none⟩ (.int .i64 col) D (fun e => hDn (by simp [e]))).trans K6)
    have C7 := Lib.hid (C6.kept gk6 (fun e => by injection e; omega))
    have B7 := Lib.hid (B6.setCell (p := ⟨n₀, 0, none⟩) (Nat.le_refl _) (.int .i64 col))
    have R7 := Lib.hid rs6
    have EW := Lib.hid ew6
    have hnp : 0 < n := by omega
    have hnp1 : (0 : Int) < (n : Int) := by omega
    clear hs1 K1 C1 B1 SO r5 g5 K5 C5 B5 C6 B6 K6 rs6 gk6 r6 eo2 ew6 hgc hgf z1 hdl hdl1
    gi_wp2
    refine wpIn_tail_wide (by omega) 6 (by kernel_rfl) (by kernel_rfl) (by kernel_rfl) ?_
    rw [← EW.out]
    simp only [List.take_succ_cons, List.take_zero, List.drop_succ_cons, List.drop_zero]
    repeat still_step
    refine wpStill_nil ?_
    gi_wp2
    refine ⟨trivial, ?_⟩
    have hcv7 : (w6.setCell ⟨n₀, 0, none⟩ (.int .i64 col)).cell? ⟨blk, off + v, none⟩ = some (.int .i64 X) := (B7.out.cell (p := ⟨blk, off + v, none⟩) hbl).trans hcv
    have HD7 := HDG.out _ hcv7
    rw [← EZ.out] at HD7
    refine (callsIn_wide.2 HD7).mono ?_
    rintro e w8 ⟨rfl, rfl⟩
    obtain ⟨w7, ew7⟩ : ∃ w7, w7 = w6.setCell ⟨n₀, 0, none⟩ (.int .i64 col) := ⟨_, rfl⟩
    rw [← ew7] at K7 C7 B7 R7 ⊢
    have z7 := C7.out.cell
    obtain ⟨Y, eY⟩ : ∃ Y, Y = z + 1 := ⟨_, rfl⟩
    have hY1 : (1 : Int) + (z : Int) = (Y : Int) := by omega
    have hY2 : (0 : Int) ≤ (Y : Int) ∧ (Y : Int) ≤ (n : Int) := by omega
    have hYn : Y ≤ n := by omega
    have hz13 : z < 100 := by omega
    have hKY : K.length = Y := by rw [HLK.out, eY]
    have HKY := Lib.hid hKY
    have HCK : Hid ((F.set 0 col).take Y = K) := Lib.hid (by rw [eY, Nat.add_comm]; exact HCT.out)
    clear hcv7 HD7 ew7 eY hKY z6 hgc6 hgf6 hcc6
    gi_wp2
    refine ⟨by simp, .inl ⟨_, _, rfl, run_takeDeferred K7.out, ?_⟩⟩
    refine ⟨_, results_tmp rfl _ _ _, ?_⟩
    have hR := ownsRow_putObj R7.out (.deferred none) K7.out rfl
    have hRow : Row (w7.putObj D (.deferred none)) n₀ (.slice (some ⟨n₀, 0, none⟩) n n) (F.set 0 col) := hR
    have hFs : (F.set 0 col).length = n := by rw [List.length_set, hFl]
    refine ⟨n₀, (by rw [HKY.out]; rfl), Nat.le_of_eq EN.out.symm, fun k hk => ⟨n₀, 0, rfl, ?_, ?_⟩, by rw [← EN.out]; exact B7.out.trans (belowK_b (w := w) hle w7 D _ _ (by have := EN.out; omega) K7.out rfl rfl)⟩
    · have h := (Array.getElem?_eq_some_iff.1 (C7.out)).1
      rw [World.putObj_size]
      omega
    · rw [HKY.out] at hk
      rw [Nat.zero_add, hRow.cellAt k (by omega), ← HCK.out, List.getElem?_take_of_lt hk]
  case stop =>
    rintro D cd pre W _ _ h _
    exact h.elim
end Go.Proofs.YtnnobbbljpaieaaDoor
