/- The law FnSwitched returns true and leaves all that was there as it was, whatever is drawn. -/
import Derived.Test.YtdgceglbnfdhbaaDoorRdr
import Derived.Test.YtdgceglbnfdhbaaDoorSwitchFns
import Derived.Test.YtdgceglbnfdhbaaDoorInLaw
import Derived.Test.YtdgceglbnfdhbaaDoorSameInts
import Derived.Test.YtdgceglbnfdhbaaDoorStillKit
namespace Go.Proofs.YtdgceglbnfdhbaaDoor
open Go Go.RowKit
set_option linter.unusedVariables false
set_option maxRecDepth 100000

theorem sum_bits (x1 x2 x3 : Nat) (h1 : x1 ≤ 1) (h2 : x2 ≤ 1) (h3 : x3 ≤ 1) : ((x1 : Int) + (x2 : Int) = ((x1 + x2 : Nat) : Int) ∧ IntKind.i64.wrap ((x1 + x2 : Nat) : Int) = ((x1 + x2 : Nat) : Int)) ∧ (((x1 + x2 : Nat) : Int) + (x3 : Int) = ((x1 + x2 + x3 : Nat) : Int) ∧ IntKind.i64.wrap ((x1 + x2 + x3 : Nat) : Int) = ((x1 + x2 + x3 : Nat) : Int)) ∧
    (Int.tmod ((x1 + x2 + x3 : Nat) : Int) 2 = (((x1 + x2 + x3) % 2 : Nat) : Int) ∧ IntKind.i64.wrap (((x1 + x2 + x3) % 2 : Nat) : Int) = (((x1 + x2 + x3) % 2 : Nat) : Int)) := by
  refine ⟨⟨by omega, by rw [IntKind.wrap_i64]; omega⟩, ⟨by omega, by rw [IntKind.wrap_i64]; omega⟩, ⟨?_, by rw [IntKind.wrap_i64]; omega⟩⟩
  rw [Int.tmod_eq_emod_of_nonneg (by omega)]
  omega
/-- Three bits of a graph at three nodes, as the loop's operations take them. -/
theorem three_bits {X Y b c : Nat} (hX : X < 64) (hY : Y < 64) : ∃ x1 x2 x3 s12 s r : Nat, bits .and .i64 ((X : Int) / 2 ^ b) 1 = (x1 : Int) ∧ bits .and .i64 ((X : Int) / 2 ^ c) 1 = (x2 : Int) ∧ bits .and .i64 ((Y : Int) / 2 ^ c) 1 = (x3 : Int) ∧
    ((x1 : Int) + (x2 : Int) = (s12 : Int) ∧ IntKind.i64.wrap (s12 : Int) = (s12 : Int)) ∧ ((s12 : Int) + (x3 : Int) = (s : Int) ∧ IntKind.i64.wrap (s : Int) = (s : Int)) ∧ (Int.tmod (s : Int) 2 = (r : Int) ∧ IntKind.i64.wrap (r : Int) = (r : Int)) ∧ r ≤ 1 ∧ r = (X / 2 ^ b % 2 + X / 2 ^ c % 2 + Y / 2 ^ c % 2) % 2 := by
  obtain ⟨x1, e1, l1, f1⟩ := and_facts X b (Nat.lt_trans hX (by decide))
  obtain ⟨x2, e2, l2, f2⟩ := and_facts X c (Nat.lt_trans hX (by decide))
  obtain ⟨x3, e3, l3, f3⟩ := and_facts Y c (Nat.lt_trans hY (by decide))
  obtain ⟨g1, g2, g3⟩ := sum_bits x1 x2 x3 l1 l2 l3
  exact ⟨x1, x2, x3, x1 + x2, x1 + x2 + x3, (x1 + x2 + x3) % 2, f1, f2, f3, g1, g2, g3, Nat.le_of_lt_succ (Nat.mod_lt _ (Nat.zero_lt_succ 1)), by rw [e1, e2, e3]⟩
theorem even_sum (u1 u2 u3 v1 v2 v3 t1 t2 t3 : Nat) (h1 : u1 = (v1 + (t1 + t2) % 2) % 2) (h2 : u2 = (v2 + (t1 + t3) % 2) % 2) (h3 : u3 = (v3 + (t2 + t3) % 2) % 2) : (u1 + u2 + u3) % 2 = (v1 + v2 + v3) % 2 := by omega
/-- Switching keeps the evenness of three nodes' edges. -/
theorem three_sw {L : List Int} (hL : IsGraph L) {s : Nat} (hs : s < 2 ^ L.length) {a b c : Nat} (hab : a < b) (hbc : b < c) (hc : c < L.length) :
    (ent (swL L s) a / 2 ^ b % 2 + ent (swL L s) a / 2 ^ c % 2 + ent (swL L s) b / 2 ^ c % 2) % 2 = (ent L a / 2 ^ b % 2 + ent L a / 2 ^ c % 2 + ent L b / 2 ^ c % 2) % 2 := by
  have ha' : a < L.length := Nat.lt_trans hab (Nat.lt_trans hbc hc)
  have hb' : b < L.length := Nat.lt_trans hbc hc
  have h1 := sw_bt hL hs ha' hb'
  have h2 := sw_bt hL hs ha' hc
  have h3 := sw_bt hL hs hb' hc
  rw [if_neg (Nat.ne_of_lt hab)] at h1
  rw [if_neg (Nat.ne_of_lt (Nat.lt_trans hab hbc))] at h2
  rw [if_neg (Nat.ne_of_lt hbc)] at h3
  exact even_sum _ _ _ _ _ _ _ _ _ h1 h2 h3
theorem sw_ints {L : List Int} (hL : IsGraph L) {v : Nat} (hv : v < L.length) : L[v]?.getD 0 = ((ent L v : Nat) : Int) ∧ ent L v < 64 := by
  have h1 := (hL.2.2 v hv).1
  have h2 := ent_lt h1
  have h3 := two_le hL.2.1
  exact ⟨ent_int h1, by omega⟩
theorem sw_same {L : List Int} (hL : IsGraph L) {s : Nat} (hs : s < 2 ^ L.length) (h : s = 0 ∨ s + 1 = 2 ^ L.length) : swL L s = L := by
  rcases h with rfl | h
  · exact sw_zero hL
  · have hp := two_pos L.length
    have h1 := sw_all hL (s := 0) hp
    rw [Nat.zero_xor, sw_zero hL] at h1
    rw [show s = 2 ^ L.length - 1 by omega]
    exact h1
set_option maxHeartbeats 800000 in
theorem fnSwitched_long (A : Option Addr) (n c : Nat) (w : World) (h : 1048576 < n) (hm : n ≤ maxLen) :
    Calls Tryd.prog 9 #[.slice A n c] w (Fine w) := by
  unfold maxLen at hm
  have hd : decide ((1048576 : Int) < (n : Int)) = true := by simp; omega
  go_enter Tryd.func9, Tryd.ntmps9
  go_wp2
  go_ret
  exact ⟨rfl, Below.refl _ _⟩

set_option maxHeartbeats 20000000 in
theorem fnSwitched_short (A : Option Addr) (n c : Nat) (w : World) (hs : n ≤ 1048576) (hT : Tab w)
    (hD : Calls Tryd.prog 26 #[.slice A n c] w (DrewZ w)) :
    Calls Tryd.prog 9 #[.slice A n c] w (Fine w) := by
  have h2 := hT.lt
  have hd : decide ((1048576 : Int) < (n : Int)) = false := by simp; omega
  have HD := Lib.hid hD
  have HT := Lib.hid hT
  clear hD hT hs
  go_enter Tryd.func9, Tryd.ntmps9
  go_wp2_with fail
  refine HD.out.mono ?_
  rintro e w1 ⟨v, L, z, rfl, l1, l6, z1, z2, r, b1⟩
  by_cases h : IsGraph L
  · by_cases hz : 0 ≤ z ∧ z < ((2 ^ L.length : Nat) : Int)
    · obtain ⟨s, rfl⟩ : ∃ s : Nat, z = (s : Int) := ⟨z.toNat, by omega⟩
      have hs : s < 2 ^ L.length := by omega
      have hsg := sw_graph h hs
      have hsl := swL_length L s
      have HC := Lib.hid (fun B v w => implNSw_good B v L s h hs w)
      have HS := Lib.hid (fun B v w => specNSw_good B v L s h hs w)
      have HC2 := Lib.hid (fun B v w => implNSw_good B v (swL L s) s hsg (by rw [hsl]; exact hs) w)
      rw [sw_sw h hs hs, Nat.xor_self, sw_zero h] at HC2
      have HI := Lib.hid (fun B v w => implIn_any B v (swL L s) true ⟨fun _ => hsg, fun _ => rfl⟩ w)
      have HTH := Lib.hid (fun (a b c : Nat) (hab : a < b) (hbc : b < c) (hc : c < L.length) => three_sw h hs hab hbc hc)
      have HEL := Lib.hid (fun (v : Nat) (hv : v < L.length) => sw_ints h hv)
      have HEM := Lib.hid (fun (v : Nat) (hv : v < (swL L s).length) => sw_ints hsg hv)
      have hfull := sw_same h hs
      obtain ⟨P, Q, hP, hQ, hP64, s1, s2, s3, s4, s5⟩ := shl_facts L.length l6
      obtain ⟨M, eM⟩ : ∃ M, M = swL L s := ⟨_, rfl⟩
      rw [← eM] at HC HS HC2 HI HTH HEM hfull hsl
      have hsQ : s = 0 ∨ s = Q → M = L := fun e => hfull (by omega)
      have HSQ := Lib.hid hsQ
      have HML := Lib.hid hsl
      clear h hz hs hsg hsl eM hfull hsQ hP
      go_wp2_with fail
      refine (HC.out _ v _ r (HT.out.below b1 (by omega))).mono ?_
      rintro e w2 ⟨vo, rfl, ro0, bb2⟩
      have b2 := b1.trans (bb2.mono b1.size)
      have r_2 := r.below bb2
      go_wp2_with fail
      refine (HS.out _ v _ r_2).mono ?_
      rintro e w3 ⟨vt, rfl, rt0, bb3⟩
      have b3 := b2.trans (bb3.mono b2.size)
      have r_3 := r_2.below bb3
      have ro_3 := ro0.below bb3
      go_wp2_with fail
      refine (sameI_yes _ _ vo vt M _ ro_3 rt0 (by have := HML.out; omega)).mono ?_
      rintro e w4 ⟨rfl, d4, rfl⟩
      have b4 := below_drewN b3 d4
      have r_4 := r_3.drewN d4
      have ro_4 := ro_3.drewN d4
      have rt_4 := rt0.drewN d4
      go_wp2_with fail
      refine (HC2.out _ vo _ ro_4 (HT.out.below b4 (by omega))).mono ?_
      rintro e w5 ⟨vx, rfl, rx0, bb5⟩
      have b5 := b4.trans (bb5.mono b4.size)
      have r_5 := r_4.below bb5
      have ro_5 := ro_4.below bb5
      have rt_5 := rt_4.below bb5
      obtain ⟨A1, c1, rfl, t1⟩ := r_5.seen
      obtain ⟨A2, c2, rfl, t2⟩ := ro_5.seen
      obtain ⟨m, em⟩ : ∃ m, m = L.length := ⟨_, rfl⟩
      have EM := Lib.hid em
      have hml : M.length = m := HML.out.trans em.symm
      have HMM := Lib.hid hml
      rw [← em] at l1 l6 s1 s2 r_5 ⊢
      rw [hml] at ro_5 ⊢
      have T1 := Lib.hid t1
      have T2 := Lib.hid t2
      have R1 := Lib.hid r_5
      have R2 := Lib.hid ro_5
      have R3 := Lib.hid rx0
      have BB := Lib.hid b5
      obtain ⟨W0, eW0⟩ : ∃ W0, W0 = w5 := ⟨_, rfl⟩
      rw [← eW0] at T1 T2 R1 R2 R3 BB ⊢
      clear eW0 em hml t1 t2
      go_wp2
      go_loopw [11, 12] (fun o i wr => ∃ a d : Nat, a ≤ m ∧ i = .int .i64 a ∧ o = .int .i64 0 ∧ wr = W0.drewN d) (fun _ i _ => m - (intOf i).toNat)
      case atStart => exact ⟨0, 0, Nat.zero_le _, rfl, rfl, rfl⟩
      case round =>
        obtain ⟨a, d, ha, rfl, rfl, ew⟩ := hrel
        have EW := Lib.hid ew
        clear ew
        by_cases hlt : a < m
        · go_wp2
          go_loopw [11, 13] (fun o i wr => ∃ b d : Nat, a < b ∧ b ≤ m ∧ i = .int .i64 b ∧ o = .int .i64 0 ∧ wr = W0.drewN d) (fun _ i _ => m - (intOf i).toNat)
          case atStart => exact ⟨a + 1, d, Nat.lt_succ_self _, hlt, by go_num, rfl, EW.out⟩
          case round =>
            obtain ⟨b, d2, hab, hb, rfl, rfl, ew2⟩ := hrel
            have EWB := Lib.hid ew2
            clear ew2
            by_cases hlb : b < m
            · go_wp2
              go_loopw [11, 14] (fun o i wr => ∃ c d : Nat, b < c ∧ c ≤ m ∧ i = .int .i64 c ∧ o = .int .i64 0 ∧ wr = W0.drewN d) (fun _ i _ => m - (intOf i).toNat)
              case atStart => exact ⟨b + 1, d2, Nat.lt_succ_self _, hlb, by go_num, rfl, EWB.out⟩
              case round =>
                obtain ⟨c, d3, hbc, hc, rfl, rfl, ew3⟩ := hrel
                by_cases hlc : c < m
                · have hcm : (0 : Int) ≤ (a : Int) ∧ (a : Int) < (m : Int) := by omega
                  have hbm : (0 : Int) ≤ (b : Int) ∧ (b : Int) < (m : Int) := by omega
                  have haL : a < L.length := by rw [← EM.out]; exact hlt
                  have hbL : b < L.length := by rw [← EM.out]; exact hlb
                  obtain ⟨ea, la⟩ := HEL.out a haL
                  obtain ⟨eb, lb⟩ := HEL.out b hbL
                  obtain ⟨ea', la'⟩ := HEM.out a (by rw [HMM.out]; exact hlt)
                  obtain ⟨eb', lb'⟩ := HEM.out b (by rw [HMM.out]; exact hlb)
                  have hpar := HTH.out a b c hab hbc (by rw [← EM.out]; exact hlc)
                  obtain ⟨g, o, rfl, _, q1⟩ := T1.out a haL
                  obtain ⟨g2, o2, e2, _, q2⟩ := T1.out b hbL
                  obtain ⟨rfl, rfl⟩ : g = g2 ∧ o = o2 := by injection e2 with e; injection e with e1 e2; exact ⟨e1, e2⟩
                  obtain ⟨k, p, rfl, _, q3⟩ := T2.out a (by rw [HMM.out]; exact hlt)
                  obtain ⟨k2, p2, e4, _, q4⟩ := T2.out b (by rw [HMM.out]; exact hlb)
                  obtain ⟨rfl, rfl⟩ : k = k2 ∧ p = p2 := by injection e4 with e; injection e with e1 e2; exact ⟨e1, e2⟩
                  rw [ea] at q1
                  rw [eb] at q2
                  rw [ea'] at q3
                  rw [eb'] at q4
                  obtain ⟨x1, x2, x3, x12, xs, xr, fx1, fx2, fx3, ⟨gx1, gx2⟩, ⟨gx3, gx4⟩, ⟨gx5, gx6⟩, xr1, exr⟩ := three_bits (b := b) (c := c) la lb
                  obtain ⟨y1, y2, y3, y12, ys, yr, fy1, fy2, fy3, ⟨gy1, gy2⟩, ⟨gy3, gy4⟩, ⟨gy5, gy6⟩, yr1, eyr⟩ := three_bits (b := b) (c := c) la' lb'
                  have hxy : yr = xr := by rw [exr, eyr, hpar]
                  subst hxy
                  obtain ⟨Xa, eXa⟩ : ∃ X, X = ent L a := ⟨_, rfl⟩
                  obtain ⟨Xb, eXb⟩ : ∃ X, X = ent L b := ⟨_, rfl⟩
                  obtain ⟨Ya, eYa⟩ : ∃ X, X = ent M a := ⟨_, rfl⟩
                  obtain ⟨Yb, eYb⟩ : ∃ X, X = ent M b := ⟨_, rfl⟩
                  rw [← eXa] at q1 fx1 fx2
                  rw [← eXb] at q2 fx3
                  rw [← eYa] at q3 fy1 fy2
                  rw [← eYb] at q4 fy3
                  have hz0 : (0 : Int) + (yr : Int) = (yr : Int) := by omega
                  have hz1 : (yr : Int) - (yr : Int) = 0 := by omega
                  have k1 : wr.cell? ⟨g, o + a, none⟩ = some (.int .i64 Xa) := by rw [ew3]; exact q1
                  have k2 : wr.cell? ⟨g, o + b, none⟩ = some (.int .i64 Xb) := by rw [ew3]; exact q2
                  obtain ⟨w2, ew4⟩ : ∃ w2, w2 = wr.drew := ⟨_, rfl⟩
                  have k3 : w2.cell? ⟨k, p + a, none⟩ = some (.int .i64 Ya) := by rw [ew4, ew3]; exact q3
                  have k4 : w2.cell? ⟨k, p + b, none⟩ = some (.int .i64 Yb) := by rw [ew4, ew3]; exact q4
                  have hb64 : b < 64 := by omega
                  have hc64 : c < 64 := by omega
                  have EW4 := Lib.hid ew4
                  have EW3 := Lib.hid ew3
                  clear ew4 ew3 q1 q2 q3 q4 e2 e4 ea eb ea' eb' la lb la' lb' hpar exr eyr eXa eXb eYa eYb haL hbL
                  go_wp2
                  refine wp_region_still_tail 26 (by kernel_rfl) (by kernel_rfl) ?_
                  simp only [List.take_succ_cons, List.take_zero, List.drop_succ_cons, List.drop_zero]
                  repeat still_step
                  refine wpStill_nil ?_
                  change wpList _ _ _ _ _ wr.drew
                  rw [← EW4.out]
                  go_wp2
                  refine wp_region_still_tail 26 (by kernel_rfl) (by kernel_rfl) ?_
                  simp only [List.take_succ_cons, List.take_zero, List.drop_succ_cons, List.drop_zero]
                  repeat still_step
                  refine wpStill_nil ?_
                  change wpList _ _ _ _ _ w2.drew
                  go_wp2
                  go_roundw
                  case rel => exact ⟨c + 1, d3 + 2, by omega, by omega, by go_num, rfl, by rw [EW4.out, EW3.out]; rfl⟩
                  case measure => simp [intOf]; omega
                · have hcm : c = m := by omega
                  subst hcm
                  have EWC := Lib.hid ew3
                  clear ew3
                  go_wp2
                  go_roundw
                  case rel => exact ⟨b + 1, d3, by omega, by omega, by go_num, rfl, EWC.out⟩
                  case measure => simp [intOf] <;> omega
            · have hbm : b = m := by omega
              subst hbm
              go_wp2
              go_roundw
              case rel => exact ⟨a + 1, d2, by omega, by go_num, rfl, EWB.out⟩
              case measure => simp [intOf] <;> omega
        · have ham : a = m := by omega
          subst ham
          have bb : Below w.heap.size w wr := by rw [EW.out]; exact below_drewN BB.out d
          have r1 := R1.out.drewN d
          rw [← EW.out] at r1
          have r2 := R2.out.drewN d
          rw [← EW.out] at r2
          have r3 := R3.out.drewN d
          rw [← EW.out] at r3
          by_cases hs0 : s = 0
          · have hml := HSQ.out (.inl hs0)
            subst hs0
            subst hml
            clear HSQ
            go_wp2_with fail
            refine (sameI_yes _ _ vx _ _ _ r3 r1 (by have := EM.out; omega)).mono ?_
            rintro e w21 ⟨rfl, d21, rfl⟩
            have b21 := below_drewN bb d21
            have r_21 := r1.drewN d21
            have ro_21 := r2.drewN d21
            have rx_21 := r3.drewN d21
            go_wp2_with fail
            refine (HI.out _ _ _ ro_21 (HT.out.below b21 (by omega))).mono ?_
            rintro e w22 ⟨rfl, bb22⟩
            have b22 := b21.trans (bb22.mono b21.size)
            have r_22 := r_21.below bb22
            have ro_22 := ro_21.below bb22
            have rx_22 := rx_21.below bb22
            go_wp2_with fail
            refine (sameI_yes _ _ _ _ _ _ ro_22 r_22 (by have := EM.out; omega)).mono ?_
            rintro e w23 ⟨rfl, d23, rfl⟩
            have b23 := below_drewN b22 d23
            have r_23 := r_22.drewN d23
            have ro_23 := ro_22.drewN d23
            have rx_23 := rx_22.drewN d23
            go_wp2
            go_ret
            exact ⟨by simp, b23⟩
          · have hz0 : ((s : Int) == 0) = false := by simp; omega
            by_cases hsQ : s = Q
            · have hml := HSQ.out (.inr hsQ)
              have hq1 : ((s : Int) == (Q : Int)) = true := by simp [hsQ]
              subst hml
              clear HSQ hsQ
              go_wp2_with fail
              refine (sameI_yes _ _ vx _ _ _ r3 r1 (by have := EM.out; omega)).mono ?_
              rintro e w21 ⟨rfl, d21, rfl⟩
              have b21 := below_drewN bb d21
              have r_21 := r1.drewN d21
              have ro_21 := r2.drewN d21
              have rx_21 := r3.drewN d21
              go_wp2_with fail
              refine (HI.out _ _ _ ro_21 (HT.out.below b21 (by omega))).mono ?_
              rintro e w22 ⟨rfl, bb22⟩
              have b22 := b21.trans (bb22.mono b21.size)
              have r_22 := r_21.below bb22
              have ro_22 := ro_21.below bb22
              have rx_22 := rx_21.below bb22
              go_wp2_with fail
              refine (sameI_yes _ _ _ _ _ _ ro_22 r_22 (by have := EM.out; omega)).mono ?_
              rintro e w23 ⟨rfl, d23, rfl⟩
              have b23 := below_drewN b22 d23
              have r_23 := r_22.drewN d23
              have ro_23 := ro_22.drewN d23
              have rx_23 := rx_22.drewN d23
              go_wp2
              go_ret
              exact ⟨by simp, b23⟩
            · have hq1 : ((s : Int) == (Q : Int)) = false := by simp; omega
              clear HSQ hsQ
              go_wp2_with fail
              refine (sameI_yes _ _ vx _ _ _ r3 r1 (by have := EM.out; omega)).mono ?_
              rintro e w21 ⟨rfl, d21, rfl⟩
              have b21 := below_drewN bb d21
              have r_21 := r1.drewN d21
              have ro_21 := r2.drewN d21
              have rx_21 := r3.drewN d21
              go_wp2_with fail
              refine (HI.out _ _ _ ro_21 (HT.out.below b21 (by omega))).mono ?_
              rintro e w22 ⟨rfl, bb22⟩
              have b22 := b21.trans (bb22.mono b21.size)
              have r_22 := r_21.below bb22
              have ro_22 := ro_21.below bb22
              have rx_22 := rx_21.below bb22
              go_wp2
              go_ret
              exact ⟨by simp, b22⟩
    · have HC := Lib.hid (fun B v w => implNSw_bad B v L z h hz w)
      have HS := Lib.hid (fun B v w => specNSw_bad B v L z h hz w)
      clear h hz
      go_wp2_with fail
      refine (HC.out _ v _ r (HT.out.below b1 (by omega))).mono ?_
      rintro e w2 ⟨vd, rfl, rd0, bb2⟩
      have b2 := b1.trans (bb2.mono b1.size)
      have r_2 := r.below bb2
      go_wp2_with fail
      refine (HS.out _ v _ r_2).mono ?_
      rintro e w3 ⟨vs, rfl, rs0, bb3⟩
      have b3 := b2.trans (bb3.mono b2.size)
      have r_3 := r_2.below bb3
      have rd_3 := rd0.below bb3
      go_wp2_with fail
      refine (sameI_yes _ _ vd vs [] _ rd_3 rs0 (by simp)).mono ?_
      rintro e w4 ⟨rfl, d4, rfl⟩
      have b4 := below_drewN b3 d4
      have r_4 := r_3.drewN d4
      have rd_4 := rd_3.drewN d4
      have rs_4 := rs0.drewN d4
      go_wp2_with fail
      refine (sameI_yes _ _ vd vs [] _ rd_4 rs_4 (by simp)).mono ?_
      rintro e w5 ⟨rfl, d5, rfl⟩
      have b5 := below_drewN b4 d5
      have r_5 := r_4.drewN d5
      have rd_5 := rd_4.drewN d5
      have rs_5 := rs_4.drewN d5
      go_wp2
      go_ret
      exact ⟨by simp, by simpa using b5⟩
  · have HC := Lib.hid (fun B v w => implNSw_none B v L z h w)
    have HS := Lib.hid (fun B v w => specNSw_none B v L z h w)
    clear h
    go_wp2_with fail
    refine (HC.out _ v _ r (HT.out.below b1 (by omega))).mono ?_
    rintro e w2 ⟨vd, rfl, rd0, bb2⟩
    have b2 := b1.trans (bb2.mono b1.size)
    have r_2 := r.below bb2
    go_wp2_with fail
    refine (HS.out _ v _ r_2).mono ?_
    rintro e w3 ⟨vs, rfl, rs0, bb3⟩
    have b3 := b2.trans (bb3.mono b2.size)
    have r_3 := r_2.below bb3
    have rd_3 := rd0.below bb3
    go_wp2_with fail
    refine (sameI_yes _ _ vd vs [] _ rd_3 rs0 (by simp)).mono ?_
    rintro e w4 ⟨rfl, d4, rfl⟩
    have b4 := below_drewN b3 d4
    have r_4 := r_3.drewN d4
    have rd_4 := rd_3.drewN d4
    have rs_4 := rs0.drewN d4
    go_wp2_with fail
    refine (sameI_yes _ _ vd vs [] _ rd_4 rs_4 (by simp)).mono ?_
    rintro e w5 ⟨rfl, d5, rfl⟩
    have b5 := below_drewN b4 d5
    have r_5 := r_4.drewN d5
    have rd_5 := rd_4.drewN d5
    have rs_5 := rs_4.drewN d5
    go_wp2
    go_ret
    exact ⟨by simp, by simpa using b5⟩
end Go.Proofs.YtdgceglbnfdhbaaDoor
