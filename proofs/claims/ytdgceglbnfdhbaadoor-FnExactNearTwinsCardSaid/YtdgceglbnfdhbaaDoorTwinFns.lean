/- NearTwins, by the program and by the model. -/
import Derived.Test.YtdgceglbnfdhbaaDoorTwinBlocks
import Derived.Test.YtdgceglbnfdhbaaDoorBaseA
import Derived.Test.YtdgceglbnfdhbaaDoorCodes
namespace Go.Proofs.YtdgceglbnfdhbaaDoor
open Go Go.RowKit
set_option linter.unusedVariables false
set_option maxRecDepth 100000

theorem implTwins_yes (B : Nat) (v : Value) (L : List Int) (hg : IsGraph L) (w : World) (h : Row w B v L) (hT : Tab w) :
    Calls Tryd.prog 23 #[v] w (Told w (ints (twinsL L)) true) := by
  have H1 := Lib.hid (asG_graph B v L hg w h hT)
  have h2 := hT.lt
  obtain ⟨A, c, rfl, hs⟩ := h.seen
  have H2 := Lib.hid (fun w hs ht => callsIn_wide.1 (twinBlocks_in A c L hg w hs ht))
  clear hg h
  go_enter Tryd.func23, Tryd.ntmps23
  go_wp2_with fail
  go_enter Tryd.func41, Tryd.ntmps41
  go_wp2_with fail
  refine H1.out.mono ?_
  rintro e w1 ⟨rfl, b1⟩
  go_wp2_with fail
  refine (H2.out w1 (hs.below b1) (hT.below b1 (by omega))).mono ?_
  rintro e w2 ⟨u, rfl, hr, hb⟩
  go_wp2
  go_ret2
  exact ⟨_, rfl, hr.mono b1.size, b1.trans (hb.mono b1.size)⟩
theorem implTwins_no (B : Nat) (v : Value) (L : List Int) (hg : ¬ IsGraph L) (w : World) (h : Row w B v L) (hT : Tab w) :
    Calls Tryd.prog 23 #[v] w (Told w [] false) := by
  have H1 := Lib.hid (asG_none B v L hg w h hT)
  clear hg h
  go_enter Tryd.func23, Tryd.ntmps23
  go_wp2_with fail
  go_enter Tryd.func41, Tryd.ntmps41
  go_wp2_with fail
  refine H1.out.mono ?_
  rintro e w1 ⟨rfl, b1⟩
  go_wp2
  go_ret2
  exact ⟨_, rfl, World.ownsRow_nil w1 w.heap.size 3 1, b1⟩
theorem specTwins_no (B : Nat) (v : Value) (L : List Int) (hg : ¬ IsGraph L) (w : World) (h : Row w B v L) :
    Calls Tryd.prog 22 #[v] w (Told w [] false) := by
  have H1 := Lib.hid (fun w h => specIn_any B v L false ⟨fun h => (by cases h), fun h => absurd h hg⟩ w h)
  have H := Lib.hid (h.below ((Below.refl _ w).alloc (Nat.le_refl _) (.cells #[] 3)))
  have E := Lib.hid (empty_list w)
  have B0 := Lib.hid ((Below.refl w.heap.size w).alloc (Nat.le_refl _) (.cells #[] 3))
  clear hg h
  go_enter Tryd.func22, Tryd.ntmps22
  go_wp2_with fail
  refine (H1.out _ H.out).mono ?_
  rintro e w1 ⟨rfl, d, rfl⟩
  have E1 : Row ((w.alloc (.cells #[] 3)).drewN d) w.heap.size (.slice (some ⟨w.heap.size, 0, none⟩) 0 0) [] := E.out
  have B1 := below_drewN B0.out d
  go_wp2
  go_ret2
  exact ⟨_, rfl, E1, B1⟩
theorem low_and (x k : Nat) (hx : x < 64) (hk : k < 6) : ∃ p q : Nat, wrap64 ((2 : Int) ^ k) = (p : Int) ∧ IntKind.i64.wrap ((2 : Int) ^ k) = (p : Int) ∧ (p : Int) - 1 = (q : Int) ∧ IntKind.i64.wrap ((p : Int) - 1) = (q : Int) ∧ IntKind.i64.wrap (q : Int) = (q : Int) ∧ bits .and .i64 (x : Int) (q : Int) = ((x % 2 ^ k : Nat) : Int) := by
  obtain ⟨P, Q, hP, hQ, hP64, p1, p2, p3, p4, p5⟩ := shl_facts k (by omega)
  refine ⟨P, Q, p1, p2, p3, p4, p5, ?_⟩
  rw [i64_and_nat x Q (Nat.lt_trans hx (by decide)) (Nat.lt_of_lt_of_le (show Q < 64 by omega) (by decide))]
  have e : Q = 2 ^ k - 1 := by omega
  rw [e, Nat.and_two_pow_sub_one_eq_mod]

set_option maxHeartbeats 4000000 in
theorem specTwins_yes (B : Nat) (v : Value) (L : List Int) (hg : IsGraph L) (w : World) (h : Row w B v L) :
    Calls Tryd.prog 22 #[v] w (Told w (ints (twinsL L)) true) := by
  have h1 := hg.1
  have h6 := hg.2.1
  have H1 := Lib.hid (fun w h => specIn_any B v L true ⟨fun _ => hg, fun _ => rfl⟩ w h)
  have HR := Lib.hid (h.below ((Below.refl _ w).alloc (Nat.le_refl _) (.cells #[] 3)))
  obtain ⟨A, c, rfl, hs⟩ := h.seen
  obtain ⟨n, hn⟩ : ∃ n, n = L.length := ⟨_, rfl⟩
  rw [← hn] at h1 h6 H1 HR ⊢
  have HN := Lib.hid hn
  have HG := Lib.hid hg
  have H := Lib.hid hs
  have E := Lib.hid (empty_list w)
  have B0 := Lib.hid ((Below.refl w.heap.size w).alloc (Nat.le_refl _) (.cells #[] 3))
  have HOUT : Hid (twinsL L = twinOut L n) := Lib.hid (by rw [hn]; rfl)
  rw [HOUT.out]
  clear hg h hs hn
  go_enter Tryd.func22, Tryd.ntmps22
  go_wp2_with fail
  refine (H1.out _ HR.out).mono ?_
  rintro e w1 ⟨rfl, d, rfl⟩
  obtain ⟨W0, eW0⟩ : ∃ W0, W0 = (w.alloc (.cells #[] 3)).drewN d := ⟨_, rfl⟩
  have E1 : Hid (Row W0 w.heap.size (.slice (some ⟨w.heap.size, 0, none⟩) 0 0) []) := Lib.hid (by rw [eW0]; exact E.out)
  have B1 : Hid (Below w.heap.size w W0) := Lib.hid (by rw [eW0]; exact below_drewN B0.out d)
  rw [← eW0]
  clear eW0 E B0 H1 HR
  go_wp2
  go_loopw [4, 5] (fun o i wr => ∃ k : Nat, k ≤ n ∧ i = .int .i64 k ∧ Hid (Row wr w.heap.size o (ints (twinOut L k))) ∧ Hid (Below w.heap.size w wr)) (fun _ i _ => n - (intOf i).toNat)
  case atStart => exact ⟨0, Nat.zero_le _, rfl, E1, B1⟩
  case round =>
    obtain ⟨k, hk, rfl, hr, hb⟩ := hrel
    by_cases hlt : k < n
    · go_wp2
      go_loopw [6, 7] (fun s i wr => ∃ j : Nat, j ≤ n ∧ i = .int .i64 j ∧ s = .int .i64 (twinTo L k j : Nat) ∧ Hid (Row wr w.heap.size u4 (ints (twinOut L k))) ∧ Hid (Below w.heap.size w wr)) (fun _ i _ => n - (intOf i).toNat)
      case atStart => exact ⟨0, Nat.zero_le _, rfl, rfl, hr, hb⟩
      case round =>
        obtain ⟨j, hj, rfl, rfl, hr2, hb2⟩ := hrel
        by_cases hlj : j < n
        · obtain ⟨a, b, p, q, u, x, z, ea, eb, ⟨wp1, wp2⟩, ⟨wq1, wq2⟩, ou, ox, oz, htb, eq, hq64⟩ := twin_step HG.out (v := k) (y := j) (by rw [← HN.out]; exact hlt) (by rw [← HN.out]; exact hlj)
          have hst := twinTo_succ L k j
          have hsl := twinTo_lt L k n j (by omega)
          have h64 := two_le h6
          rw [← eq] at hst
          obtain ⟨s, es⟩ : ∃ s, s = twinTo L k j := ⟨_, rfl⟩
          rw [← es] at hst hsl
          rw [← es]
          obtain ⟨tb, etb⟩ : ∃ tb, tb = twB L k j := ⟨_, rfl⟩
          rw [← etb] at hst htb
          have os := i64_or_nat s q (Nat.lt_of_lt_of_le hsl (Nat.le_trans h64 (by decide))) (Nat.lt_trans hq64 (by decide))
          obtain ⟨blk, off, rfl, hbl1, hc1⟩ := H.out k (by rw [← HN.out]; exact hlt)
          obtain ⟨blk2, off2, hA2, hbl2, hc2⟩ := H.out j (by rw [← HN.out]; exact hlj)
          have e2 : blk = blk2 ∧ off = off2 := by injection hA2 with e; injection e with e1 e2; exact ⟨e1, e2⟩
          obtain ⟨rfl, rfl⟩ := e2
          rw [ea] at hc1
          rw [eb] at hc2
          have rk : wr.cell? ⟨blk, off + k, none⟩ = some (.int .i64 a) := (hb2.out.cell (p := ⟨blk, off + k, none⟩) hbl1).trans hc1
          have rj : wr.cell? ⟨blk, off + j, none⟩ = some (.int .i64 b) := (hb2.out.cell (p := ⟨blk, off + j, none⟩) hbl1).trans hc2
          have hi1 : (0 : Int) ≤ (k : Int) ∧ (k : Int) < (n : Int) := by omega
          have hi2 : (0 : Int) ≤ (j : Int) ∧ (j : Int) < (n : Int) := by omega
          have hk64 : k < 64 := by omega
          have hj64 : j < 64 := by omega
          obtain ⟨w2, ew2⟩ : ∃ w2, w2 = wr.drew := ⟨_, rfl⟩
          have rk2 : w2.cell? ⟨blk, off + k, none⟩ = some (.int .i64 a) := by rw [ew2]; exact rk
          have rj2 : w2.cell? ⟨blk, off + j, none⟩ = some (.int .i64 b) := by rw [ew2]; exact rj
          have HR3 : Hid (Row w2.drew w.heap.size u4 (ints (twinOut L k))) := Lib.hid (by rw [ew2]; exact hr2.out)
          have HB3 : Hid (Below w.heap.size w w2.drew) := Lib.hid (by rw [ew2]; exact hb2.out.drew.drew)
          have EW2 := Lib.hid ew2
          have HST := Lib.hid hst
          clear ew2 hst es etb hA2 hc1 hc2 hbl1 hbl2 ea eb eq hsl h64 hq64 hr2 hb2 rk rj
          go_wp2
          refine wp_region_still_tail 5 (by kernel_rfl) (by kernel_rfl) ?_
          simp only [List.take_succ_cons, List.take_zero, List.drop_succ_cons, List.drop_zero]
          repeat still_step
          refine wpStill_nil ?_
          change wpList _ _ _ _ _ wr.drew
          rw [← EW2.out]
          go_wp2
          refine wp_region_still_tail 12 (by kernel_rfl) (by kernel_rfl) ?_
          simp only [List.take_succ_cons, List.take_zero, List.drop_succ_cons, List.drop_zero]
          repeat still_step
          refine wpStill_nil ?_
          change wpList _ _ _ _ _ w2.drew
          cases tb
          · go_wp2
            go_roundw
            case rel => exact ⟨j + 1, by omega, by go_num, by rw [HST.out, if_neg (by decide)], HR3, HB3⟩
            case measure => simp [intOf]; omega
          · go_wp2
            go_roundw
            case rel => exact ⟨j + 1, by omega, by go_num, by rw [HST.out, if_pos (by trivial)], HR3, HB3⟩
            case measure => simp [intOf]; omega
        · have hjn : j = n := by omega
          subst hjn
          have htl : twinTo L k j = twinL L k := by unfold twinL; rw [HN.out]
          have hsm := twinTo_lt L k j j (Nat.le_refl _)
          have h64 := two_le h6
          have hso := twinOut_succ L k
          rw [htl] at hsm
          rw [htl]
          obtain ⟨s, es⟩ : ∃ s, s = twinL L k := ⟨_, rfl⟩
          rw [← es] at hso hsm
          rw [← es]
          obtain ⟨p, q, p1, p2, p3, p4, p5, pa⟩ := low_and s k (by omega) (by omega)
          have hk64 : k < 64 := by omega
          have hlen1 : (ints (twinOut L k)).length ≤ 100000 := by rw [ints_length]; have := twinOut_length L k; omega
          have HLN := Lib.hid hlen1
          obtain ⟨z, ez⟩ : ∃ z, z = s % 2 ^ k := ⟨_, rfl⟩
          rw [← ez] at pa hso
          have HW := Lib.hid hb2.out.size
          by_cases hz : z = 0
          · have hso2 := Lib.hid (show ints (twinOut L (k + 1)) = ints (twinOut L k) ++ [(s : Int)] by rw [hso, if_pos hz]; simp [ints])
            subst hz
            clear hso ez es htl hsm h64 hlen1
            go_wp2_with (at_builtin; refine append_one rfl (.tmp 54) (.tmp 56) rfl wr w.heap.size u4 (ints (twinOut L k)) (s : Int) rfl rfl hr2.out HW.out HLN.out ?_; intro v3 w3 hv3 hb3
                         have BV3 := Lib.hid (hb2.out.trans hb3.out)
                         clear hb3)
            go_roundw
            case rel => exact ⟨k + 1, by omega, by go_num, Lib.hid (by rw [hso2.out]; exact hv3.out), BV3⟩
            case measure => simp [intOf]; omega
          · have hso2 := Lib.hid (show ints (twinOut L (k + 1)) = ints (twinOut L k) by rw [hso, if_neg hz])
            have hzz : ((z : Int) == 0) = false := by simp; omega
            clear hso ez es htl hsm h64 hlen1
            go_wp2
            go_roundw
            case rel => exact ⟨k + 1, by omega, by go_num, Lib.hid (by rw [hso2.out]; exact hr2.out), hb2⟩
            case measure => simp [intOf]; omega
    · have hkn : k = n := by omega
      subst hkn
      go_wp2
      go_ret2
      exact ⟨_, rfl, hr.out, hb.out⟩
end Go.Proofs.YtdgceglbnfdhbaaDoor
