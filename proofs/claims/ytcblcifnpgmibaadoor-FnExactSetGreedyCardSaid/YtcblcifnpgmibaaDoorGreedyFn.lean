/- The program's iterator over nodes with their greedy colours. -/
import Derived.Test.YtcblcifnpgmibaaDoorGreedyMath
import Derived.Test.YtcblcifnpgmibaaDoorSeqFar
import Derived.Test.YtcblcifnpgmibaaDoorTailWide
import Derived.Test.YtcblcifnpgmibaaDoorBaseA
namespace Go.Proofs.YtcblcifnpgmibaaDoor
open Go.RowKit Go.Shelf
attribute [local go_sem] Oper.semAt_some
set_option linter.unusedVariables false
set_option maxRecDepth 100000

abbrev NC (n : Nat) := { x : Nat × Nat // x.1 < n ∧ x.2 < n }
abbrev encG (n : Nat) (x : NC n) : Array Value := #[.int .i64 (x.1.1 : Int), .int .i64 (x.1.2 : Int)]
def valsG {n : Nat} (l : List (NC n)) : List (Nat × Nat) := l.map (·.1)
theorem valsG_snoc {n : Nat} (l : List (NC n)) (x : NC n) : valsG (l ++ [x]) = valsG l ++ [x.1] := by simp [valsG]
theorem valsG_length {n : Nat} (l : List (NC n)) : (valsG l).length = l.length := by simp [valsG]
/-- What a round owes: the boxes and the lists stay. -/
def KeepGr (B1 B2 : Nat) (G P : Value) (A A' : Option Addr) (L V : List Int) (X Y : World) : Prop :=
  (Boxed X B1 36 G → Boxed Y B1 36 G) ∧ (Boxed X B2 22 P → Boxed Y B2 22 P) ∧ (Seen X A L → Seen Y A L) ∧ (Seen X A' V → Seen Y A' V)
theorem row_rst {X Y : World} {B g n cap m : Nat} {xs : List Int} (h : Row X B (.slice (some ⟨g, 0, none⟩) n cap) xs) (hb : Rst m X Y) (hg : m ≤ g) : Row Y B (.slice (some ⟨g, 0, none⟩) n cap) xs := by
  obtain ⟨h0, h1⟩ := h
  refine ⟨h0, ?_⟩
  rcases h1 with ⟨h1, _⟩ | ⟨g', cap', cur, a1, a2, a3, a4⟩
  · cases h1
  · refine .inr ⟨g', cap', cur, a1, a2, hb.2 _ _ ?_ a3, a4⟩
    injection a1 with e1; injection e1 with e1; injection e1 with e1; omega
theorem seen_lowB {X Y : World} {M : Nat} {A : Option Addr} {L : List Int} (h : Seen X A L) (hb : Below M X Y) (hA : ∀ b off, A = some ⟨b, off, none⟩ → b < M) : Seen Y A L := fun k hk => by
  obtain ⟨b, off, a, hlt, hc⟩ := h k hk
  exact ⟨b, off, a, Nat.lt_of_lt_of_le hlt hb.size, (hb.cell (p := ⟨b, off + k, none⟩) (hA b off a)).trans hc⟩
theorem gP_take (L : List Int) (n : Nat) (vs : List Nat) (k : Nat) (hk : k < vs.length) : gP L n (vs.take (k + 1)) = gP L n (vs.take k) ++ [(vs[k]?.getD 0, colN (gS L n (vs.take k)).1 (ent L (vs[k]?.getD 0)))] := by
  unfold gP
  rw [List.length_take, List.length_take, Nat.min_eq_left (by omega), Nat.min_eq_left (by omega), List.range_succ, List.map_append]
  congr 1
  · refine List.map_congr_left fun j hj => ?_
    rw [List.mem_range] at hj
    rw [List.getElem?_take, List.getElem?_take, if_pos (by omega), if_pos hj, List.take_take, List.take_take, Nat.min_eq_left (by omega), Nat.min_eq_left (by omega)]
  · simp only [List.map_cons, List.map_nil]
    rw [List.getElem?_take, if_pos (by omega), List.take_take, Nat.min_eq_left (by omega)]
theorem takeG {vs : List Nat} {k : Nat} (hk : k < vs.length) : vs.take (k + 1) = vs.take k ++ [vs[k]?.getD 0] := by
  rw [List.take_succ_eq_append_getElem hk, List.getElem?_eq_getElem hk]
  rfl
theorem pow_ops {v x : Nat} (hv : v < 6) (hx : x < 64) : ∃ P F : Nat, F = x ||| 2 ^ v ∧ wrap64 ((2 : Int) ^ v) = (P : Int) ∧ IntKind.i64.wrap ((2 : Int) ^ v) = (P : Int) ∧ bits .or .i64 (x : Int) (P : Int) = (F : Int) := by
  have iw : ∀ x : Int, IntKind.i64.wrap x = wrap64 x := fun x => by rw [IntKind.wrap_i64]; unfold wrap64; rfl
  have l1 := pow_le v 5 (by omega)
  exact ⟨2 ^ v, _, rfl, wrap_pow v (by omega), (iw _).trans (wrap_pow v (by omega)), i64_or_nat x (2 ^ v) (by omega) (Nat.lt_of_le_of_lt l1 (by decide))⟩

set_option maxHeartbeats 4000000 in
theorem greedy_farN (A A' : Option Addr) (c c' : Nat) (L : List Int) (n : Nat) (hn : n = L.length) (hg : IsGraph L) (vs : List Nat) (hl : vs.length ≤ n) (hv : ∀ v ∈ vs, v < n)
    (B1 B2 : Nat) (w : World) (hb1 : Boxed w B1 36 (.slice A n c)) (hb2 : Boxed w B2 22 (.slice A' vs.length c')) (hs1 : Seen w A L) (hs2 : Seen w A' (ints vs)) :
    FarSeq Fence.wide 7 Tryd.prog 77 #[.pointer (some ⟨B1, 0, none⟩), .pointer (some ⟨B2, 0, none⟩)] (encG n) (KeepGr B1 B2 (.slice A n c) (.slice A' vs.length c') A A' L (ints vs)) (fun xs => valsG xs = gP L n vs) (fun _ => True) 6 w := fun l J Jx W hbW hJ hJx hY h0 => by
  have h1 : 1 ≤ n := by rw [hn]; exact hg.1
  have h6 : n ≤ 6 := by rw [hn]; exact hg.2.1
  have K0 : Hid (Boxed W B1 36 (.slice A n c) ∧ Boxed W B2 22 (.slice A' vs.length c') ∧ Seen W A L ∧ Seen W A' (ints vs)) := Lib.hid ⟨(hbW.block B1 hb1.lt).trans hb1, (hbW.block B2 hb2.lt).trans hb2, hs1.below hbW, hs2.below hbW⟩
  have HE : Hid (∀ X : World, Seen X A L → ∀ k, k < n → ∃ b off, A = some ⟨b, off, none⟩ ∧ X.cell? ⟨b, off + k, none⟩ = some (.int .i64 (ent L k : Nat)) ∧ ent L k < 64) := Lib.hid fun X hs k hk => by
    obtain ⟨b, off, a, _, hc⟩ := hs k (by omega)
    have hin := (hg.2.2 k (by omega)).1
    rw [ent_int hin] at hc
    exact ⟨b, off, a, hc, Nat.lt_of_lt_of_le (ent_lt hin) (two_le hg.2.1)⟩
  have HP : Hid (∀ X : World, Seen X A' (ints vs) → ∀ k, k < vs.length → ∃ b off, A' = some ⟨b, off, none⟩ ∧ X.cell? ⟨b, off + k, none⟩ = some (.int .i64 (vs[k]?.getD 0 : Nat)) ∧ vs[k]?.getD 0 < n) := Lib.hid fun X hs k hk => by
    obtain ⟨b, off, a, _, hc⟩ := hs k (by rw [ints_length]; omega)
    rw [ints_get] at hc
    exact ⟨b, off, a, hc, hv _ (by rw [List.getElem?_eq_getElem hk]; exact List.getElem_mem _)⟩
  have HV : Hid (∀ k, ∀ v ∈ vs.take k, v < 6) := Lib.hid fun k v h => Nat.lt_of_lt_of_le (hv v (List.mem_of_mem_take h)) h6
  have HJ := Lib.hid hJ
  have HX := Lib.hid hJx
  have HY := Lib.hid hY
  have hmk := run_make_ints n (by omega)
  have hk0 := K0.out.1.cell
  have hk1 := K0.out.2.1.cell
  have hk1' : ∀ n, (madeW W n).cell? ⟨B2, 0, none⟩ = some (.slice A' vs.length c') := fun n => (K0.out.2.1.alloc _).cell
  have R0 := Lib.hid (madeW_row W n (by omega))
  have BB0 := Lib.hid (madeW_below W n)
  have hm6 : vs.length ≤ 6 := by omega
  obtain ⟨m, em⟩ : ∃ m, m = vs.length := ⟨_, rfl⟩
  have EM := Lib.hid em
  have HNL := Lib.hid hn
  have HL := Lib.hid hl
  rw [← em] at hk1 hk1' hm6
  clear hY hJ hJx hbW hg hv hl hb1 hb2 hs1 hs2 em hn
  refine callsIn_of_wp Tryd.func77 rfl trivial ?_ rfl
  simp only [Tryd.ntmps77, List.size_toArray, List.length_cons, List.length_nil, Nat.reduceAdd, Nat.reduceSub, Array.replicate_succ, Array.replicate_zero, List.push_toArray, List.append_toArray, List.nil_append, List.cons_append]
  gi_wp2
  clear hmk hk0 hk1 hk1'
  obtain ⟨W1, eW1⟩ : ∃ W1, W1 = madeW W n := ⟨_, rfl⟩
  have K1 : Hid (Boxed W1 B1 36 (.slice A n c) ∧ Boxed W1 B2 22 (.slice A' vs.length c') ∧ Seen W1 A L ∧ Seen W1 A' (ints vs)) := Lib.hid (by
    rw [eW1]
    exact ⟨K0.out.1.alloc _, K0.out.2.1.alloc _, K0.out.2.2.1.below (madeW_below W n), K0.out.2.2.2.below (madeW_below W n)⟩)
  have J0 : J [] W1 := by rw [eW1]; exact HJ.out _ _ _ h0 (madeW_below W n)
  have R1 : Hid (Row W1 W.heap.size (.slice (some ⟨W.heap.size, 0, none⟩) n n) (ints (gS L n (vs.take 0)).1)) := Lib.hid (by rw [eW1]; exact R0.out)
  rw [← eW1]
  obtain ⟨M, eM⟩ : ∃ M, M = W.heap.size := ⟨_, rfl⟩
  rw [← eM] at R1 HJ HX HY ⊢
  have HB12 : Hid (B1 < M ∧ B2 < M) := Lib.hid (by rw [eM]; exact ⟨K0.out.1.lt, K0.out.2.1.lt⟩)
  have HAB : Hid (∀ b off, A = some ⟨b, off, none⟩ → b < M) := Lib.hid fun b off a => by
    obtain ⟨b', off', a', hlt, _⟩ := K0.out.2.2.1 0 (by rw [← HNL.out]; omega)
    rw [a] at a'
    injection a' with a'
    injection a' with a1 a2
    rw [eM, a1]
    exact hlt
  have HAB' : Hid (∀ k, k < m → ∀ b off, A' = some ⟨b, off, none⟩ → b < M) := Lib.hid fun k hk b off a => by
    obtain ⟨b', off', a', hlt, _⟩ := K0.out.2.2.2 k (by rw [ints_length, ← EM.out]; exact hk)
    rw [a] at a'
    injection a' with a'
    injection a' with a1 a2
    rw [eM, a1]
    exact hlt
  clear eW1 K0 h0 R0 BB0 eM
  gi_loopw [6, 7, 13] (fun _ _ i wr => ∃ (k : Nat) (pre : List (NC n)), k ≤ m ∧ i = .int .i64 k ∧ Hid (valsG pre = gP L n (vs.take k)) ∧ J pre wr ∧ Hid (Boxed wr B1 36 (.slice A n c) ∧ Boxed wr B2 22 (.slice A' vs.length c') ∧ Seen wr A L ∧ Seen wr A' (ints vs)) ∧ Hid (Row wr M (.slice (some ⟨M, 0, none⟩) n n) (ints (gS L n (vs.take k)).1))) (fun _ _ i _ => m - (intOf i).toNat)
  case atStart => exact ⟨0, [], Nat.zero_le _, rfl, Lib.hid rfl, J0, K1, R1⟩
  case round =>
    obtain ⟨k, pre, hk, rfl, hp, hj, hK, hR⟩ := hrel
    by_cases hlt : k < m
    · have hlv : k < vs.length := by rw [← EM.out]; exact hlt
      obtain ⟨bP, oP, rfl, cP, hvn⟩ := HP.out wr hK.out.2.2.2 k hlv
      obtain ⟨bE, oE, rfl, cE, hX64⟩ := HE.out wr hK.out.2.2.1 (vs[k]?.getD 0) hvn
      have hgl := gS_length L n (vs.take k)
      have hsm := gS_small L n (vs.take k) (HV.out k)
      have hkl : (vs.take k).length = k := by rw [List.length_take]; omega
      obtain ⟨g1, g2, g3⟩ := gS_col L h6 (vs.take k) (vs[k]?.getD 0) (by have := HL.out; omega)
      rw [hkl] at g2
      have hstep : gS L n (vs.take (k + 1)) = gst L (gS L n (vs.take k)) (vs[k]?.getD 0) := by rw [takeG hlv, gS_snoc]
      have hpstep := gP_take L n vs k hlv
      have hnv := HL.out
      obtain ⟨v, ev⟩ : ∃ v, v = vs[k]?.getD 0 := ⟨_, rfl⟩
      rw [← ev] at cP cE hvn hX64 g1 g2 g3 hstep hpstep
      obtain ⟨X, eX⟩ : ∃ X, X = ent L v := ⟨_, rfl⟩
      rw [← eX] at cE hX64 g1 g2 g3 hpstep
      unfold gst at hstep
      rw [← eX] at hstep
      obtain ⟨cs, ecs⟩ : ∃ cs, cs = (gS L n (vs.take k)).1 := ⟨_, rfl⟩
      have HR0 : Hid (Row wr M (.slice (some ⟨M, 0, none⟩) n n) (ints cs)) := Lib.hid (by rw [ecs]; exact hR.out)
      have hst1 : (gS L n (vs.take (k + 1))).1 = cs.set (colN cs X) (cs[colN cs X]?.getD 0 ||| 2 ^ v) := by rw [hstep, ← ecs]
      rw [← ecs] at g1 g2 g3 hsm hgl hpstep
      obtain ⟨q, eq⟩ : ∃ q, q = colN cs X := ⟨_, rfl⟩
      rw [← eq] at g1 g2 g3 hst1 hpstep
      have hqn : q < n := by omega
      have HCS : Hid (cs.length = n) := Lib.hid hgl.1
      have HSM := Lib.hid hsm
      have HG1 := Lib.hid g1
      have HG3 := Lib.hid g3
      have HST := Lib.hid hst1
      have HPS := Lib.hid hpstep
      have hK1 := hK.out.1.cell
      have hki : (0 : Int) ≤ (k : Int) ∧ (k : Int) < (m : Int) := by omega
      have hvi : (0 : Int) ≤ (v : Int) ∧ (v : Int) < (n : Int) := by omega
      have hv40 : v < 40 := by omega
      have HK := hK
      clear hR hgl hsm g1 g3 hst1 hpstep hstep ecs ev eX eq hkl hlv hnv hK
      have hlen : pre.length < 6 := by
        have h2 := congrArg List.length hp.out
        rw [valsG_length] at h2
        unfold gP at h2
        rw [List.length_map, List.length_range, List.length_take] at h2
        omega
      obtain ⟨Wk, eWk⟩ : ∃ Wk, Wk = wr := ⟨_, rfl⟩
      rw [← eWk] at hj HK HR0 cP cE hK1 ⊢
      clear eWk
      gi_wp2
      gi_loopw [7] (fun col wr => ∃ jj d : Nat, jj ≤ q ∧ col = .int .i64 jj ∧ wr = Wk.drewN d) (fun col _ => q - (intOf col).toNat)
      case atStart => exact ⟨0, 0, Nat.zero_le _, rfl, rfl⟩
      case round =>
        obtain ⟨jj, d, hjj, rfl, ew⟩ := hrel
        have z1 : wr.cell? ⟨M, jj, none⟩ = some (.int .i64 (cs[jj]?.getD 0 : Nat)) := by
          rw [ew]
          have h := HR0.out.cellAt jj (by rw [ints_length, HCS.out]; omega)
          rw [ints_get] at h
          exact h
        have z2 : wr.cell? ⟨bE, oE + v, none⟩ = some (.int .i64 X) := by rw [ew]; exact cE
        have z3 : wr.cell? ⟨B1, 0, none⟩ = some (.slice (some ⟨bE, oE, none⟩) n c) := by rw [ew]; exact hK1
        have hc64 := HSM.out jj
        have hy1 : jj < q → cs[jj]?.getD 0 &&& X ≠ 0 := HG3.out jj
        have hy2 : jj = q → cs[jj]?.getD 0 &&& X = 0 := fun e => by rw [e]; exact HG1.out
        obtain ⟨u, eu⟩ : ∃ u, u = cs[jj]?.getD 0 := ⟨_, rfl⟩
        rw [← eu] at z1 hc64 hy1 hy2
        have EU := Lib.hid eu
        have fu := i64_and_nat u X (by omega) (by omega)
        obtain ⟨y, ey⟩ : ∃ y, y = u &&& X := ⟨_, rfl⟩
        rw [← ey] at fu hy1 hy2
        have EW := Lib.hid ew
        have hji : (0 : Int) ≤ (jj : Int) ∧ (jj : Int) < (n : Int) := by omega
        clear ew eu ey
        by_cases hq : jj < q
        · have e0 : ((y : Int) != 0) = true := by have := hy1 hq; simp; omega
          clear hy1 hy2
          gi_wp2
          gi_quiet_th (fail)
          gi_wp2
          go_roundw
          case rel => exact ⟨jj + 1, d + nq, by omega, by go_num, by rw [EW.out, World.drewN_drewN]⟩
          case measure => simp [intOf]; omega
        · have hje : jj = q := by omega
          have e0 : ((y : Int) != 0) = false := by have := hy2 hje; simp; omega
          subst hje
          clear hy1 hy2
          gi_wp2
          gi_quiet_th (fail)
          obtain ⟨Y, eY⟩ : ∃ Y, Y = wr.drewN nq := ⟨_, rfl⟩
          have hYW : Y = Wk.drewN (d + nq) := by rw [eY, EW.out, World.drewN_drewN]
          have x1 : Y.drew.cell? ⟨M, jj, none⟩ = some (.int .i64 u) := by rw [eY]; exact z1
          have x2 : Y.drew.frozen? ⟨M, jj, none⟩ = false := by
            rw [hYW]
            exact HR0.out.frozenAt jj (by rw [ints_length, HCS.out]; omega)
          obtain ⟨P2, F2, eF, p1, p2, p3⟩ := pow_ops (show v < 6 by omega) hc64
          have EF := Lib.hid eF
          have HYW := Lib.hid hYW
          rw [← eY]
          clear eY hYW eF z1 z2 z3 fu
          gi_wp2
          refine wpIn_tail_wide (by omega) 8 (by kernel_rfl) (by kernel_rfl) (by kernel_rfl) ?_
          simp only [List.take_succ_cons, List.take_zero, List.drop_succ_cons, List.drop_zero]
          repeat still_step
          refine wpStill_nil ?_
          obtain ⟨Z2, eZ⟩ : ∃ Z2, Z2 = (Y.setCell ⟨M, jj, none⟩ (.int .i64 F2)).drew := ⟨_, rfl⟩
          have bZ : Below M Wk Z2 := by
            rw [eZ, HYW.out]
            exact ((below_drewN (Below.refl M Wk) (d + nq)).setCell (p := ⟨M, jj, none⟩) (Nat.le_refl M) _).drew
          have jZ : J pre Z2 := HJ.out _ _ _ hj bZ
          have kZ : Boxed Z2 B1 36 (.slice (some ⟨bE, oE, none⟩) n c) ∧ Boxed Z2 B2 22 (.slice (some ⟨bP, oP, none⟩) vs.length c') ∧ Seen Z2 (some ⟨bE, oE, none⟩) L ∧ Seen Z2 (some ⟨bP, oP, none⟩) (ints vs) :=
            ⟨(bZ.block B1 HB12.out.1).trans HK.out.1, (bZ.block B2 HB12.out.2).trans HK.out.2.1, seen_lowB HK.out.2.2.1 bZ HAB.out, seen_lowB HK.out.2.2.2 bZ (HAB'.out k hlt)⟩
          have rZ : Row Z2 M (.slice (some ⟨M, 0, none⟩) n n) (ints (cs.set jj F2)) := by
            rw [eZ, ← ints_set, HYW.out]
            exact (show Row (Wk.drewN (d + nq)) M (.slice (some ⟨M, 0, none⟩) n n) (ints cs) from HR0.out).set jj (by rw [ints_length, HCS.out]; omega) (F2 : Int)
          have KZ := Lib.hid kZ
          have RZ := Lib.hid rZ
          obtain ⟨fn, tmps, assign, body, hyy, hR⟩ := HY.out pre ⟨(v, jj), hvn, hqn⟩ Z2 jZ hlen
          dsimp only [encG] at hyy
          have EZ := Lib.hid eZ
          clear eZ kZ rZ bZ
          gi_wp2
          rw [← EZ.out, hyy]
          simp only [Oper.uponIn]
          refine ⟨fun _ => by omega, hR.mono ?_⟩
          rintro e W3 (⟨rfl, hJ3, hkp, _, hrs⟩ | ⟨rfl, hJx3, _, _⟩)
          · have K3 : Hid (Boxed W3 B1 36 (.slice (some ⟨bE, oE, none⟩) n c) ∧ Boxed W3 B2 22 (.slice (some ⟨bP, oP, none⟩) vs.length c') ∧ Seen W3 (some ⟨bE, oE, none⟩) L ∧ Seen W3 (some ⟨bP, oP, none⟩) (ints vs)) :=
              Lib.hid ⟨hkp.1 KZ.out.1, hkp.2.1 KZ.out.2.1, hkp.2.2.1 KZ.out.2.2.1, hkp.2.2.2 KZ.out.2.2.2⟩
            have R3 : Hid (Row W3 M (.slice (some ⟨M, 0, none⟩) n n) (ints (gS L n (vs.take (k + 1))).1)) := Lib.hid (by
              rw [HST.out, ← EU.out, ← EF.out]
              exact row_rst RZ.out hrs (Nat.le_refl _))
            have P3 : Hid (valsG (pre ++ [(⟨(v, jj), hvn, hqn⟩ : NC n)]) = gP L n (vs.take (k + 1))) := Lib.hid (by rw [valsG_snoc, hp.out, HPS.out])
            clear hkp hrs
            gi_wp2
            go_roundw
            case rel => exact ⟨k + 1, _, by omega, by go_num, P3, hJ3, K3, R3⟩
            case measure => simp [intOf]; omega
          · gi_wp2
            refine bodyPost_ret (results_none rfl _ _ _) rfl ?_
            exact ⟨⟨_, rfl⟩, .inr ⟨_, trivial, hJx3⟩⟩
    · have hke : k = m := by omega
      have HP2 : Hid (valsG pre = gP L n vs) := Lib.hid (by
        have h := hp.out
        rw [hke, EM.out, List.take_length] at h
        exact h)
      clear hp
      gi_wp2
      go_end0
      exact ⟨⟨_, rfl⟩, .inl ⟨pre, HP2.out, hj⟩⟩
end Go.Proofs.YtcblcifnpgmibaaDoor
