/- The program's table by forests: a range over the subsets. -/
import Derived.Test.YtpegeleidkfpbaaDoorTreesSum
import Derived.Test.YtpegeleidkfpbaaDoorSubsFn
import Derived.Test.YtpegeleidkfpbaaDoorActiveFn
import Derived.Test.YtpegeleidkfpbaaDoorHeldOne
namespace Go.Proofs.YtpegeleidkfpbaaDoor
open Go.RowKit Go.Shelf
attribute [local go_sem] Oper.semAt_some
set_option linter.unusedVariables false
set_option maxRecDepth 100000

/-- Between two rounds: the graph's box, those of x and y, the sum's. -/
def TrI (n₀ bx by_ bs C : Nat) (S vx vy : Value) (pre : List (Sb C)) (W : World) : Prop :=
  Boxed W n₀ 41 S ∧ Boxed W bx 64 vx ∧ Boxed W by_ 64 vy ∧ TV W vx tabX ∧ TV W vy tabY ∧ ∃ v, Boxed W bs 64 v ∧ TV W v (trRun C (valsS pre))
theorem trI_own (n₀ bx by_ bs C : Nat) (S vx vy : Value) : Own (TrI n₀ bx by_ bs C S vx vy) := fun s X Y row hs hg hr => by
  obtain ⟨h0, h1, h2, h3, h4, v, h5, h6⟩ := hs
  exact ⟨boxed_own _ _ (fun _ : Unit => _) () X Y row h0 hg hr, boxed_own _ _ (fun _ : Unit => _) () X Y row h1 hg hr, boxed_own _ _ (fun _ : Unit => _) () X Y row h2 hg hr, tv_kept h3 hg hr, tv_kept h4 hg hr, v, boxed_own _ _ (fun _ : Unit => _) () X Y row h5 hg hr, tv_kept h6 hg hr⟩

set_option maxHeartbeats 8000000 in
theorem treesT_in (A : Option Addr) (c : Nat) (L : List Int) (ht : IsT L) (w : World) (h : Seen w A L) (hT : Tab w) :
    CallsIn Fence.wide 12 Tryd.prog 52 #[.slice A L.length c] w (GaveT w (treesP (codeOf L))) := by
  have h2 := hT.lt
  have hCl := code_ltN ht
  have hle := codesN_le L.length
  have HU := Lib.hid unknowns_any
  have HC : Hid (∀ w1, Below w.heap.size w w1 → Calls Tryd.prog 64 #[.slice A L.length c] w1 (NumB w1 (codeOf L))) := Lib.hid (fun w1 hb => callsIn_wide.1 (implCode_in A c L ht.1 w1 (h.below hb)))
  have HF : Hid (∀ F, F < codesN L.length → ∀ w1, Below w.heap.size w w1 → Calls Tryd.prog 50 #[.slice A L.length c, .int .i64 (F : Nat)] w1 (Said1 w1 (forB (codeOf L) F))) := Lib.hid (fun F hF w1 hb => isForest_any A c L ht F hF w1 (h.below hb) (hT.below hb (by omega)))
  have HA : Hid (∀ F, F < codesN L.length → ∀ w1, Below w.heap.size w w1 → Calls Tryd.prog 51 #[.slice A L.length c, .int .i64 (F : Nat)] w1 (Nums2 w1 (actP (codeOf L) F).1 (actP (codeOf L) F).2)) := Lib.hid (fun F hF w1 hb => callsIn_wide.1 (active_in A c L ht F hF w1 (h.below hb) (hT.below hb (by omega))))
  obtain ⟨n, hn⟩ : ∃ n, n = L.length := ⟨_, rfl⟩
  rw [← hn] at HC HF HA hCl hle ⊢
  obtain ⟨C, eC⟩ : ∃ C, C = codeOf L := ⟨_, rfl⟩
  rw [← eC] at HC HF HA hCl ⊢
  have hC : C < 1024 := by omega
  have HCL := Lib.hid hCl
  have H2 := Lib.hid h2
  clear h ht hn hT eC hCl hle
  refine callsIn_of_wp_marks Tryd.func52 rfl trivial ?_ rfl
  simp only [Tryd.ntmps52, List.size_toArray, List.length_cons, List.length_nil, Nat.reduceAdd, Nat.reduceSub, Array.replicate_succ, Array.replicate_zero, List.push_toArray, List.append_toArray, List.nil_append, List.cons_append]
  gi_wp2_with fail
  refine ⟨trivial, ?_⟩
  refine (callsIn_wide.2 (HU.out (w.alloc (.cells #[.slice A n c] 41)))).mono ?_
  rintro e wB ⟨vx, vy, rfl, hx, hy, hbB⟩
  rw [World.size_alloc] at hbB
  have b0 : Boxed wB w.heap.size 41 (.slice A n c) := (hbB.block w.heap.size (by omega)).trans (Boxed.new w 41 (.slice A n c))
  have bB : Below w.heap.size w wB := ((Below.refl _ w).alloc (Nat.le_refl _) _).trans (hbB.mono (by omega))
  obtain ⟨Ax, nx, cx, rfl⟩ := hx.shape
  obtain ⟨Ay, ny, cy, rfl⟩ := hy.shape
  have hsB : w.heap.size + 1 ≤ wB.heap.size := by
    have h := hbB.size
    rw [World.size_alloc] at h
    exact h
  obtain ⟨W3, e3⟩ : ∃ W3, W3 = ((wB.alloc (.cells #[.slice Ax nx cx] 64)).alloc (.cells #[.slice Ay ny cy] 64)).alloc (.cells #[.slice none 0 0] 64) := ⟨_, rfl⟩
  have c0 : Boxed W3 w.heap.size 41 (.slice A n c) := by rw [e3]; exact ((b0.alloc _).alloc _).alloc _
  have c1 : Boxed W3 wB.heap.size 64 (.slice Ax nx cx) := by rw [e3]; exact ((Boxed.new wB _ _).alloc _).alloc _
  have c2 : Boxed W3 (wB.heap.size + 1) 64 (.slice Ay ny cy) := by
    rw [e3]; have h := Boxed.new (wB.alloc (.cells #[.slice Ax nx cx] 64)) 64 (.slice Ay ny cy); rw [World.size_alloc] at h; exact h.alloc _
  have c3 : Boxed W3 (wB.heap.size + 1 + 1) 64 (.slice none 0 0) := by
    rw [e3]; have h := Boxed.new ((wB.alloc (.cells #[.slice Ax nx cx] 64)).alloc (.cells #[.slice Ay ny cy] 64)) 64 (.slice none 0 0); rw [World.size_alloc, World.size_alloc] at h; exact h
  have s3 : W3.heap.size = wB.heap.size + 1 + 1 + 1 := by rw [e3]; simp
  have d3 : Below wB.heap.size wB W3 := by rw [e3]; exact (((Below.refl _ wB).alloc (Nat.le_refl _) _).alloc (by simp) _).alloc (by simp; omega) _
  have x3 := hx.below d3
  have y3 := hy.below d3
  have bW3 := bB.trans (d3.mono (by omega))
  have q0 : (((wB.alloc (.cells #[.slice Ax nx cx] 64)).alloc (.cells #[.slice Ay ny cy] 64)).alloc (.cells #[.slice none 0 0] 64)).cell? ⟨w.heap.size, 0, none⟩ = some (.slice A n c) := by rw [← e3]; exact c0.cell
  gi_wp2_with fail
  rw [← e3]
  refine ⟨trivial, ?_⟩
  refine (callsIn_wide.2 (HC.out W3 bW3)).mono ?_
  rintro e wC ⟨rfl, hbC⟩
  gi_wp2_with fail
  refine ⟨trivial, ?_⟩
  refine (callsIn_wide.2 (subsets_any C wC)).mono ?_
  rintro e wD ⟨rfl, rfl⟩
  gi_wp2_with fail
  obtain ⟨W, eW⟩ : ∃ W, W = wC.alloc (.cells #[.int .i64 C] 3) := ⟨_, rfl⟩
  have dW : Below W3.heap.size W3 W := by rw [eW]; exact hbC.trans ((Below.refl _ wC).alloc (Nat.le_refl _) _ |>.mono hbC.size)
  have sW : W.heap.size = wC.heap.size + 1 := by rw [eW]; simp
  have hcW : Boxed W wC.heap.size 3 (.int .i64 C) := by rw [eW]; exact Boxed.new wC 3 (.int .i64 C)
  rw [← eW]
  have g0 : Boxed W w.heap.size 41 (.slice A n c) := (dW.block _ (by omega)).trans c0
  have g1 : Boxed W wB.heap.size 64 (.slice Ax nx cx) := (dW.block _ (by omega)).trans c1
  have g2 : Boxed W (wB.heap.size + 1) 64 (.slice Ay ny cy) := (dW.block _ (by omega)).trans c2
  have g3 : Boxed W (wB.heap.size + 1 + 1) 64 (.slice none 0 0) := (dW.block _ (by omega)).trans c3
  have gx := x3.below dW
  have gy := y3.below dW
  have gB : Below w.heap.size w W := bW3.trans (dW.mono (by omega))
  obtain ⟨n₀, en⟩ : ∃ n₀, n₀ = w.heap.size := ⟨_, rfl⟩
  obtain ⟨bx, ebx⟩ : ∃ bx, bx = wB.heap.size := ⟨_, rfl⟩
  obtain ⟨bc, ebc⟩ : ∃ bc, bc = wC.heap.size := ⟨_, rfl⟩
  have hbcs := hbC.size
  rw [← en] at g0 gB hsB ⊢
  rw [← ebx] at g1 g2 g3 hsB s3 ⊢
  rw [← ebc] at hcW sW hbcs ⊢
  have hord : n₀ + 1 ≤ bx ∧ bx + 1 + 1 + 1 ≤ bc ∧ W.heap.size = bc + 1 := ⟨by omega, by omega, by omega⟩
  have EN := Lib.hid en
  have hle : n₀ ≤ w.heap.size := by omega
  have h2n : 2 ≤ n₀ := by have := H2.out; omega
  clear e3 c0 c1 c2 c3 s3 d3 x3 y3 bW3 q0 eW dW sW b0 bB hx hy hbB hbC hbcs hsB ebx ebc en
  have HORD := Lib.hid hord
  refine wpIn_rangeFunc_ownF (α := Sb C) rfl (by omega) (gf := 92) (lb := #[.pointer (some ⟨bc, 0, none⟩)]) rfl trivial (enters_of Tryd.func92 (by kernel_rfl) rfl)
    (subs_stops _ bc C (by omega) hC W hcW) keepS_t (fun W l o o' _ ho hc _ => keepS_b W l o o' ho hc) (Below.refl _ _) (fun _ => rfl)
    (fun pre Z => TrI n₀ bx (bx + 1) (bx + 1 + 1) C (.slice A n c) (.slice Ax nx cx) (.slice Ay ny cy) pre Z ∧ Below n₀ w Z) (fun _ _ _ => False)
    (OwnFrom.and (Own.from (trI_own _ _ _ _ _ _ _ _) _) (ownFrom_below hle (by omega))) (fun _ _ _ _ _ hs _ _ => hs)
    ⟨⟨g0, g1, g2, gx, gy, _, g3, tv_nil _⟩, gB⟩
    (fun x => { tmps := #[.slice A n c, .pointer (some ⟨n₀, 0, none⟩), .slice none 0 0, .pointer (some ⟨bx, 0, none⟩), .pointer (some ⟨bx + 1, 0, none⟩), .pointer (some ⟨bx + 1 + 1, 0, none⟩), .int .i64 (x.1 : Int), undef, undef,
      .tuple #[.slice Ax nx cx, .slice Ay ny cy], .tuple #[.slice Ax nx cx, .slice Ay ny cy], .slice Ax nx cx, .slice Ay ny cy, .slice A n c, .int .i64 C,
      .func (.func 92) #[] #[.pointer (some ⟨bc, 0, none⟩)], .int .i64 (x.1 : Int), undef, undef, undef, undef, undef, undef, undef, undef, undef, undef, undef, undef, undef, undef, undef, undef, undef], defers := [] }) ?assign ?body ?done ?stop
  case assign =>
    intro l x W K hK
    gi_wp2
    exact hK
  case body =>
    rintro l pre x Z ⟨⟨k0, k1, k2, kx, ky, v, k3, kv⟩, hB⟩ hlen
    have hst : trRun C (valsS (pre ++ [x])) = trStep C (trRun C (valsS pre)) x.1 := by rw [valsS_snoc, trRun_snoc]
    obtain ⟨pr, epr⟩ : ∃ pr, pr = pre ++ [x] := ⟨_, rfl⟩
    rw [← epr] at hst ⊢
    clear epr
    obtain ⟨s, hs⟩ := x
    dsimp only at hst ⊢
    have hsC : s ≤ C := by rw [← hs]; exact Nat.and_le_right
    have hsN : s < codesN n := Nat.lt_of_le_of_lt hsC HCL.out
    have hTs := trRun_small C (valsS pre)
    obtain ⟨T, eT⟩ : ∃ T, T = trRun C (valsS pre) := ⟨_, rfl⟩
    rw [← eT] at hst hTs kv
    have hBZ : Below w.heap.size w Z := by rw [← EN.out]; exact hB
    have HFZ := Lib.hid (HF.out s hsN Z hBZ)
    have HAZ : Hid (∀ w1, Below w.heap.size w w1 → Calls Tryd.prog 51 #[.slice A n c, .int .i64 (s : Nat)] w1 (Nums2 w1 (actP C s).1 (actP C s).2)) := Lib.hid (fun w1 hb => HA.out s hsN w1 hb)
    have hal := actP_le C s
    have hMs := mono_small hal.1 hal.2
    have hrs := fun i j (hi : i ≤ 10) (hj : j ≤ 10) => rows_small ⟨i, by omega⟩ ⟨j, by omega⟩
    obtain ⟨Av, nv, cv, rfl⟩ := kv.shape
    unfold trStep at hst
    obtain ⟨f, ef⟩ : ∃ f, f = forB C s := ⟨_, rfl⟩
    rw [← ef] at hst HFZ
    obtain ⟨i, ei⟩ : ∃ i, i = (actP C s).1 := ⟨_, rfl⟩
    obtain ⟨j, ej⟩ : ∃ j, j = (actP C s).2 := ⟨_, rfl⟩
    rw [← ei, ← ej] at hst HAZ hal hMs
    have HR : Hid (∀ w1 : World, TV w1 (.slice Ax nx cx) tabX → TV w1 (.slice Ay ny cy) tabY → Calls Tryd.prog 71 #[.slice Ax nx cx, .int .i64 i, .slice Ay ny cy, .int .i64 j] w1 (GaveT w1 (monoXY i j))) := Lib.hid (fun w1 h1 h2 =>
      raised_any _ _ tabX tabY i j (by omega) (by omega) (by decide) (by decide) (fun a ha => (hrs a 0 (by omega) (by omega)).2.1) (fun a ha => (hrs i a (by omega) (by omega)).2.2) w1 h1 h2)
    obtain ⟨M, eM⟩ : ∃ M, M = monoXY i j := ⟨_, rfl⟩
    rw [← eM] at hst HR hMs
    have HPl : Hid (∀ (w1 : World) (u : Value), TV w1 (.slice Av nv cv) T → TV w1 u M → Calls Tryd.prog 69 #[.slice Av nv cv, u] w1 (GaveT w1 (plusT T M))) := Lib.hid (fun w1 u h1 h2 =>
      plusT_any _ u T M (by have := hTs.1; omega) (by have := hMs.1; omega) (fun k => Nat.le_trans (hTs.2 k) (by decide)) (fun k => Nat.le_trans (hMs.2 k) (by decide)) w1 h1 h2)
    have z0 := k0.cell
    have HST := Lib.hid hst
    have K0 := Lib.hid k0
    have K1 := Lib.hid k1
    have K2 := Lib.hid k2
    have K3 := Lib.hid k3
    have KX := Lib.hid kx
    have KY := Lib.hid ky
    have KV := Lib.hid kv
    have HB := Lib.hid hB
    have HNZ := Lib.hid (show n₀ ≤ Z.heap.size from Nat.le_of_lt k0.lt)
    clear hst k0 k1 k2 k3 kx ky kv hB hal hMs hrs ei ej eM ef eT hTs hsN hsC hBZ hlen g0 g1 g2 g3 gx gy gB hcW
    cases f with
    | false =>
      have HST2 : Hid (trRun C (valsS pr) = T) := Lib.hid (by rw [HST.out]; rfl)
      gi_wp2_with (refine ⟨trivial, ?_⟩; gi_at_call 50; refine (CallsIn.inRound l (callsIn_wide.2 HFZ.out)).mono ?_; rintro e Z1 ⟨rfl, hb1⟩)
      have hko : KeepsOthers Z Z1 := KeepsOthers.of_grownBy (row := none) ⟨hb1.os, hb1.tape, hb1.output, hb1.size, fun k hk _ => hb1.block k hk⟩ (fun _ _ e => by cases e)
      refine ⟨hko, fun x => (hb1.block _ x.lt).trans x, ⟨(hb1.block _ K0.out.lt).trans K0.out, (hb1.block _ K1.out.lt).trans K1.out, (hb1.block _ K2.out.lt).trans K2.out, KX.out.below hb1, KY.out.below hb1, _, (hb1.block _ K3.out.lt).trans K3.out, ?_⟩, HB.out.trans (hb1.mono HNZ.out)⟩
      rw [HST2.out]
      exact KV.out.below hb1
    | true =>
      have HST2 : Hid (trRun C (valsS pr) = plusT T M) := Lib.hid (by rw [HST.out]; rfl)
      gi_wp2_with (first
        | (refine ⟨trivial, ?_⟩; gi_at_call 50; refine (CallsIn.inRound l (callsIn_wide.2 HFZ.out)).mono ?_; rintro e Z1 ⟨rfl, hb1⟩
           have k1' : Boxed Z1 n₀ 41 (.slice A n c) := (hb1.block _ K0.out.lt).trans K0.out
           have z1 := k1'.cell
           have hB1 : Below w.heap.size w Z1 := by rw [← EN.out]; exact HB.out.trans (hb1.mono HNZ.out)
           clear k1')
        | (refine ⟨trivial, ?_⟩; gi_at_call 51; refine (CallsIn.inRound l (callsIn_wide.2 (HAZ.out Z1 hB1))).mono ?_; rintro e Z2 ⟨rfl, hb2⟩))
      have hz := hb1.trans (hb2.mono hb1.size)
      have e1 : Boxed Z2 bx 64 (.slice Ax nx cx) := (hz.block _ K1.out.lt).trans K1.out
      have e2 : Boxed Z2 (bx + 1) 64 (.slice Ay ny cy) := (hz.block _ K2.out.lt).trans K2.out
      have e3 : Boxed Z2 (bx + 1 + 1) 64 (.slice Av nv cv) := (hz.block _ K3.out.lt).trans K3.out
      have q1 : Z2.drew.cell? ⟨bx, 0, none⟩ = some (.slice Ax nx cx) := e1.cell
      have q2 : Z2.drew.cell? ⟨bx + 1, 0, none⟩ = some (.slice Ay ny cy) := e2.cell
      have q3 : Z2.drew.cell? ⟨bx + 1 + 1, 0, none⟩ = some (.slice Av nv cv) := e3.cell
      have hzd : Below Z.heap.size Z Z2.drew := hz.drew
      have HRR := Lib.hid (HR.out Z2.drew (KX.out.below hzd) (KY.out.below hzd))
      have hS0 : Z2.drew.cell? ⟨bx, 0, none⟩ = some (.slice Ax nx cx) ∧ Z2.drew.cell? ⟨bx + 1, 0, none⟩ = some (.slice Ay ny cy) ∧ Z2.drew.cell? ⟨bx + 1 + 1, 0, none⟩ = some (.slice Av nv cv) := ⟨q1, q2, q3⟩
      have HZ := Lib.hid hz
      have E1 := Lib.hid e1
      have E2 := Lib.hid e2
      have E3 := Lib.hid e3
      clear hz e1 e2 e3 hzd z0 z1 hb1 hb2 hB1
      refine wpIn_held_round 7 (fun W' => W'.cell? ⟨bx, 0, none⟩ = some (.slice Ax nx cx) ∧ W'.cell? ⟨bx + 1, 0, none⟩ = some (.slice Ay ny cy) ∧ W'.cell? ⟨bx + 1 + 1, 0, none⟩ = some (.slice Av nv cv)) (by kernel_rfl) (by rfl) (by kernel_rfl) (by kernel_rfl) (by kernel_rfl) (by kernel_rfl) ?_
      simp only [List.take_succ_cons, List.take_zero, List.drop_succ_cons, List.drop_zero]
      refine wpAnyH_take (i := 0) (v := .slice Av nv cv) rfl (by kernel_rfl) (by kernel_rfl) (by kernel_rfl) (fun _ _ _ h => h) (Or.inl ⟨by rfl, ?_⟩) hS0 ?_
      · rintro w' ⟨a1, a2, a3⟩
        go_simp
      simp only [Act.put, List.setIfInBounds_toArray]
      refine wpAnyH_take (i := 1) (v := .slice Ax nx cx) rfl (by kernel_rfl) (by kernel_rfl) (by kernel_rfl) (fun _ _ _ h => h) (Or.inl ⟨by rfl, ?_⟩) hS0 ?_
      · rintro w' ⟨a1, a2, a3⟩
        go_simp
      simp only [Act.put, List.setIfInBounds_toArray]
      refine wpAnyH_take (i := 2) (v := .int .i64 (i : Nat)) rfl (by kernel_rfl) (by kernel_rfl) (by kernel_rfl) (fun _ _ _ h => h) (Or.inl ⟨by rfl, ?_⟩) hS0 ?_
      · rintro w' ⟨a1, a2, a3⟩
        go_simp
      simp only [Act.put, List.setIfInBounds_toArray]
      refine wpAnyH_take (i := 3) (v := .slice Ay ny cy) rfl (by kernel_rfl) (by kernel_rfl) (by kernel_rfl) (fun _ _ _ h => h) (Or.inl ⟨by rfl, ?_⟩) hS0 ?_
      · rintro w' ⟨a1, a2, a3⟩
        go_simp
      simp only [Act.put, List.setIfInBounds_toArray]
      refine wpAnyH_take (i := 4) (v := .int .i64 (j : Nat)) rfl (by kernel_rfl) (by kernel_rfl) (by kernel_rfl) (fun _ _ _ h => h) (Or.inl ⟨by rfl, ?_⟩) hS0 ?_
      · rintro w' ⟨a1, a2, a3⟩
        go_simp
      simp only [Act.put, List.setIfInBounds_toArray]
      refine wpAnyH_one (i := 5) (by kernel_rfl) rfl ?_
      go_wp2_with fail
      refine HRR.out.mono ?_
      rintro e Z3 ⟨v3, rfl, hv3, hb3⟩
      have hz3 : Below Z2.heap.size Z2 Z3 := (Below.refl _ Z2).drew.trans hb3
      obtain ⟨A3, n3, c3, rfl⟩ := hv3.shape
      have HPP := Lib.hid (HPl.out Z3 _ ((KV.out.below HZ.out).below hz3) hv3)
      have r1 : Z3.cell? ⟨bx, 0, none⟩ = some (.slice Ax nx cx) := (hz3.cell (p := ⟨bx, 0, none⟩) E1.out.lt).trans q1
      have r2 : Z3.cell? ⟨bx + 1, 0, none⟩ = some (.slice Ay ny cy) := (hz3.cell (p := ⟨bx + 1, 0, none⟩) E2.out.lt).trans q2
      have r3 : Z3.cell? ⟨bx + 1 + 1, 0, none⟩ = some (.slice Av nv cv) := (hz3.cell (p := ⟨bx + 1 + 1, 0, none⟩) E3.out.lt).trans q3
      have HZ3 := Lib.hid (HZ.out.trans (hz3.mono HZ.out.size))
      clear hv3 hb3 hz3
      go_wp2
      refine ⟨⟨r1, r2, r3⟩, ?_⟩
      refine wpAnyH_one (i := 6) (by kernel_rfl) rfl ?_
      go_wp2_with fail
      refine HPP.out.mono ?_
      rintro e Z4 ⟨v4, rfl, hv4, hb4⟩
      obtain ⟨A4, n4, c4, rfl⟩ := hv4.shape
      have hz4 : Below Z.heap.size Z Z4 := HZ3.out.trans (hb4.mono HZ3.out.size)
      have t1 : Z4.cell? ⟨bx, 0, none⟩ = some (.slice Ax nx cx) := (hz4.cell (p := ⟨bx, 0, none⟩) K1.out.lt).trans K1.out.cell
      have t2 : Z4.cell? ⟨bx + 1, 0, none⟩ = some (.slice Ay ny cy) := (hz4.cell (p := ⟨bx + 1, 0, none⟩) K2.out.lt).trans K2.out.cell
      have f3 : Boxed Z4 (bx + 1 + 1) 64 (.slice Av nv cv) := (hz4.block _ K3.out.lt).trans K3.out
      have t3 := f3.cell
      have u3 := f3.frozen
      have F3 := Lib.hid f3
      have HV4 := Lib.hid hv4
      have HZ4 := Lib.hid hz4
      clear hv4 hb4 hz4 f3
      go_wp2
      refine ⟨⟨t1, t2, t3⟩, ?_⟩
      refine wpAnyH_done (by kernel_rfl) ?_ 0
      clear q1 q2 q3 r1 r2 r3 hS0 t1 t2
      change wpListIn _ _ _ _ _ _ _ _
      gi_wp2
      have hty : TypedAt Z4 (bx + 1 + 1) 64 := ⟨_, _, F3.out⟩
      have hko : KeepsOthers Z Z4 := KeepsOthers.of_grownBy (row := none) ⟨HZ4.out.os, HZ4.out.tape, HZ4.out.output, HZ4.out.size, fun k hk _ => HZ4.out.block k hk⟩ (fun _ _ e => by cases e)
      have hOR := HORD.out
      have hbe : Below n₀ w (Z4.setCell ⟨bx + 1 + 1, 0, none⟩ (.slice A4 n4 c4)) := (HB.out.trans (HZ4.out.mono HNZ.out)).setCell (p := ⟨bx + 1 + 1, 0, none⟩) (by show n₀ ≤ bx + 1 + 1; omega) _
      refine ⟨hko.trans (KeepsOthers.setCell _ _ _), fun x => Boxed.other ((HZ4.out.block _ x.lt).trans x) (by omega) _, ⟨?_, ?_, ?_, (KX.out.below HZ4.out).other hty (by decide) (by decide), (KY.out.below HZ4.out).other hty (by decide) (by decide), _, F3.out.set _, ?_⟩, hbe⟩
      · exact Boxed.other ((HZ4.out.block _ K0.out.lt).trans K0.out) (by omega) _
      · exact Boxed.other ((HZ4.out.block _ K1.out.lt).trans K1.out) (by omega) _
      · exact Boxed.other ((HZ4.out.block _ K2.out.lt).trans K2.out) (by omega) _
      · rw [HST2.out]
        exact HV4.out.other hty (by decide) (by decide)
  case done =>
    rintro D xs Z hD hS ⟨⟨k0, k1, k2, kx, ky, v, k3, kv⟩, hB⟩ hK
    have z3 := k3.cell
    have hfin : TV Z v (treesP C) := by
      unfold treesP
      rw [← hS]
      exact kv
    have HF2 := Lib.hid hfin
    have KK := Lib.hid hK
    have HB := Lib.hid hB
    clear hS k0 k1 k2 kx ky k3 kv hB hK hfin
    gi_wp2
    refine ⟨by simp, .inl ⟨_, _, rfl, run_takeDeferred KK.out, ?_⟩⟩
    refine ⟨_, results_tmp rfl _ _ _, ?_⟩
    refine ⟨_, rfl, tv_kept HF2.out (row := some D) (grownBy_putObj' Z D _) (fun r e => by cases e; exact ⟨_, KK.out, rfl⟩), ?_⟩
    rw [← EN.out]
    exact HB.out.trans (belowK_b (w := w) hle Z D _ _ (by have := EN.out; omega) KK.out rfl rfl)
  case stop =>
    rintro D cd pre W _ _ h _
    exact h.elim
end Go.Proofs.YtpegeleidkfpbaaDoor
