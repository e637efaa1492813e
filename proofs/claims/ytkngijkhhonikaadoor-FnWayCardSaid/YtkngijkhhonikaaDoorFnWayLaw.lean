/- The law FnWay returns true and leaves all that was there as it was, whatever is drawn. -/
import Derived.Test.YtkngijkhhonikaaDoorDrawTreeWay
import Derived.Test.YtkngijkhhonikaaDoorSameInts
import Derived.Test.YtkngijkhhonikaaDoorWayNo
import Derived.Test.YtkngijkhhonikaaDoorWayProms
import Derived.BigQuiet
namespace Go.Proofs.YtkngijkhhonikaaDoor
open Go Go.RowKit
set_option linter.unusedVariables false
set_option maxRecDepth 100000

set_option maxHeartbeats 800000 in
theorem fnWay_long (A : Option Addr) (n c : Nat) (w : World) (h : 1048576 < n) (hm : n ≤ maxLen) :
    Calls Tryd.prog 6 #[.slice A n c] w (Fine w) := by
  unfold maxLen at hm
  have hd : decide ((1048576 : Int) < (n : Int)) = true := by simp; omega
  go_enter Tryd.func6, Tryd.ntmps6
  go_wp2
  go_ret
  exact ⟨rfl, Below.refl _ _⟩

set_option maxHeartbeats 4000000 in
theorem fnWay_short (A : Option Addr) (n c : Nat) (w : World) (hs : n ≤ 1048576) (hT : Tab w)
    (hD : Calls Tryd.prog 23 #[.slice A n c] w (DrewW w)) :
    Calls Tryd.prog 6 #[.slice A n c] w (Fine w) := by
  have h2 := hT.lt
  have hd : decide ((1048576 : Int) < (n : Int)) = false := by simp; omega
  have HD := Lib.hid hD
  have HT := Lib.hid hT
  clear hD hT hs
  go_enter Tryd.func6, Tryd.ntmps6
  go_wp2_with fail
  refine HD.out.mono ?_
  rintro e w1 ⟨v, L, z, y, rfl, l1, l6, ⟨z1, z2⟩, ⟨y1, y2⟩, r, b1⟩
  by_cases h : InWay L z y
  · obtain ⟨ht, ⟨h0, ha⟩, h0b, hb⟩ := h
    obtain ⟨a, rfl⟩ : ∃ k : Nat, z = k := ⟨z.toNat, by omega⟩
    obtain ⟨b, rfl⟩ : ∃ k : Nat, y = k := ⟨y.toNat, by omega⟩
    have ha2 : a < L.length := by omega
    have hb2 : b < L.length := by omega
    have HI := Lib.hid (fun B v w => implWay_yes B v L a b ht ha2 hb2 w)
    have HS := Lib.hid (fun B v w => specWay_yes B v L a b ht ha2 hb2 w)
    have HI2 := Lib.hid (fun B v w => implWay_yes B v L b a ht hb2 ha2 w)
    obtain ⟨f1, f2, f3, f4, f5⟩ := way_facts ht ha2 hb2
    have hd := dB_le L b a
    rw [way_back ht ha2 hb2] at HI2
    have HE : Hid (∀ k, k < L.length → L[k]?.getD 0 = ((ent L k : Nat) : Int) ∧ ent L k < 64) := Lib.hid fun k hk => ⟨ent_int (ht.1.1.2.2 k hk).1, Nat.lt_of_lt_of_le (ent_lt (ht.1.1.2.2 k hk).1) (two_le l6)⟩
    obtain ⟨O, eO⟩ : ∃ O, O = wayT L a b := ⟨_, rfl⟩
    rw [← eO] at HI HS HI2 f1 f2 f3 f4 f5
    obtain ⟨q, eq⟩ : ∃ q, q = dB L b a := ⟨_, rfl⟩
    rw [← eq] at f1 f2 f3 f5 hd
    have HX : Hid (∀ i, i ≤ q → (ints O.reverse)[q - i]?.getD 0 = ((O[i]?.getD 0 : Nat) : Int)) := Lib.hid fun i hi => by
      rw [ints_get, List.getElem?_reverse (by omega), show O.length - 1 - (q - i) = i by omega]
    have F1 := Lib.hid f1
    have F2 := Lib.hid f2
    have F3 := Lib.hid f3
    have F4 := Lib.hid f4
    have F5 := Lib.hid f5
    clear ht eO eq f1 f2 f3 f4 f5
    go_wp2_with fail
    refine (HI.out _ v _ r (HT.out.below b1 (by omega))).mono ?_
    rintro e w2 ⟨vo, rfl, ro0, bb2⟩
    have b2 := b1.trans (bb2.mono b1.size)
    have r_2 := r.below bb2
    go_wp2_with fail
    refine (HS.out _ v _ r_2).mono ?_
    rintro e w3 ⟨vs, rfl, rs0, bb3⟩
    have b3 := b2.trans (bb3.mono b2.size)
    have r_3 := r_2.below bb3
    have ro_3 := ro0.below bb3
    go_wp2_with fail
    refine (sameI_yes _ _ vo vs (ints O) _ ro_3 rs0 (by have := F1.out; rw [ints_length]; omega)).mono ?_
    rintro e w4 ⟨rfl, d4, rfl⟩
    have b4 := below_drewN b3 d4
    have r_4 := r_3.drewN d4
    have ro_4 := ro_3.drewN d4
    have rs_4 := rs0.drewN d4
    go_wp2_with fail
    refine (HI2.out _ v _ r_4 (HT.out.below b4 (by omega))).mono ?_
    rintro e w5 ⟨vx, rfl, rx0, bb5⟩
    have b5 := b4.trans (bb5.mono b4.size)
    have r_5 := r_4.below bb5
    have ro_5 := ro_4.below bb5
    have rs_5 := rs_4.below bb5
    obtain ⟨A1, c1, rfl, s1⟩ := r_5.seen
    obtain ⟨A2, c2, rfl, s2⟩ := ro_5.seen
    obtain ⟨A3, c3, rfl, s3⟩ := rx0.seen
    obtain ⟨n, en⟩ : ∃ n, n = q + 1 := ⟨_, rfl⟩
    have hl2 : (ints O).length = n := by rw [ints_length, F1.out, en]
    have hl3 : (ints O.reverse).length = n := by rw [ints_length, List.length_reverse, F1.out, en]
    rw [hl2, hl3]
    have L2 := Lib.hid hl2
    have L3 := Lib.hid hl3
    have EN := Lib.hid en
    obtain ⟨W0, eW0⟩ : ∃ W0, W0 = w5 := ⟨_, rfl⟩
    have BB := Lib.hid b5
    have S1 : Hid (∀ k, k < L.length → ∃ g o, A1 = some ⟨g, o, none⟩ ∧ W0.cell? ⟨g, o + k, none⟩ = some (.int .i64 (ent L k : Nat))) := Lib.hid fun k hk => by
      obtain ⟨g, o, x, _, hc⟩ := s1 k hk
      rw [(HE.out k hk).1] at hc
      exact ⟨g, o, x, by rw [eW0]; exact hc⟩
    have S2 : Hid (∀ k, k < n → ∃ g o, A2 = some ⟨g, o, none⟩ ∧ W0.cell? ⟨g, o + k, none⟩ = some (.int .i64 (O[k]?.getD 0 : Nat))) := Lib.hid fun k hk => by
      obtain ⟨g, o, x, _, hc⟩ := s2 k (by rw [hl2]; exact hk)
      rw [ints_get] at hc
      exact ⟨g, o, x, by rw [eW0]; exact hc⟩
    have S3 : Hid (∀ i, i < n → ∃ g o, A3 = some ⟨g, o, none⟩ ∧ W0.cell? ⟨g, o + (n - 1 - i), none⟩ = some (.int .i64 (O[i]?.getD 0 : Nat))) := Lib.hid fun i hi => by
      obtain ⟨g, o, x, _, hc⟩ := s3 (q - i) (by rw [hl3]; omega)
      rw [HX.out i (by omega)] at hc
      exact ⟨g, o, x, by rw [eW0, show n - 1 - i = q - i by omega]; exact hc⟩
    rw [← eW0] at BB ⊢
    have hn7 : n ≤ 7 := by omega
    have hn1 : 1 ≤ n := by omega
    clear eW0 en s1 s2 s3 hl2 hl3 HI HS HI2 hd
    obtain ⟨N, eN⟩ : ∃ N, N = L.length := ⟨_, rfl⟩
    rw [← eN] at l1 l6 F2 S1 HE ha hb ha2 hb2 ⊢
    clear eN
    go_wp2
    go_loopw [13] (fun i wr => ∃ k d : Nat, k ≤ n ∧ i = .int .i64 k ∧ wr = W0.drewN d) (fun i _ => n - (intOf i).toNat)
    case atStart => exact ⟨0, 0, Nat.zero_le _, rfl, rfl⟩
    case round =>
      obtain ⟨k, d, hk, rfl, ew⟩ := hrel
      have EW := Lib.hid ew
      by_cases hlt : k < n
      · have hkq : k ≤ q := by have := EN.out; omega
        obtain ⟨g2, o2, rfl, c2x⟩ := S2.out k hlt
        obtain ⟨g3, o3, rfl, c3x⟩ := S3.out k hlt
        have hu := F2.out k hkq
        obtain ⟨g1, o1, rfl, c1x⟩ := S1.out _ hu
        have hE := (HE.out _ hu).2
        obtain ⟨u, eu⟩ : ∃ u, u = O[k]?.getD 0 := ⟨_, rfl⟩
        obtain ⟨j, ej⟩ : ∃ j, j = n - 1 - k := ⟨_, rfl⟩
        rw [← ej] at c3x
        have hj : (n : Int) - 1 - (k : Int) = (j : Int) := by omega
        have hi : (0 : Int) ≤ (k : Int) ∧ (k : Int) < (n : Int) ∧ (0 : Int) ≤ (j : Int) ∧ (j : Int) < (n : Int) := by omega
        have p2 : wr.cell? ⟨g2, o2 + k, none⟩ = some (.int .i64 (u : Nat)) := by rw [ew, eu]; exact c2x
        have p3 : wr.cell? ⟨g3, o3 + j, none⟩ = some (.int .i64 (u : Nat)) := by rw [ew, eu]; exact c3x
        have p1 : wr.cell? ⟨g1, o1 + u, none⟩ = some (.int .i64 (ent L u : Nat)) := by rw [ew, eu]; exact c1x
        rw [← eu] at hu hE
        have hui : (0 : Int) ≤ (u : Int) ∧ (u : Int) < (N : Int) := by omega
        have hge : decide ((n : Int) ≤ (k : Int)) = false := by simp; omega
        by_cases hk0 : k = 0
        · have hn0 : ¬ n = 0 := by omega
          have hn0b : decide (n = 0) = false := by simp; omega
          have hj0 : (n : Int) - 1 = (j : Int) := by omega
          have hge0 : decide ((n : Int) ≤ 0) = false := by simp; omega
          have q2 : wr.cell? ⟨g2, o2, none⟩ = some (.int .i64 (u : Nat)) := by have := p2; rw [hk0, Nat.add_zero] at this; exact this
          have hin : (0 : Int) < (n : Int) ∧ (0 : Int) ≤ (j : Int) ∧ (j : Int) < (n : Int) := by omega
          subst hk0
          clear ew c1x c2x c3x eu ej p2 hj hge hi
          go_wp2
          go_quiet (fail)
          go_wp2
          exact ⟨⟨1, d + _, by omega, congrArg (Value.int .i64) (by omega), by rw [EW.out, World.drewN_drewN]⟩, by simp [intOf]; omega⟩
        · obtain ⟨k1, ek1⟩ : ∃ k1, k1 = k - 1 := ⟨_, rfl⟩
          have f3 := F3.out k (by omega) hkq
          rw [← ek1, ← eu] at f3
          have hu1 := F2.out k1 (by omega)
          obtain ⟨g4, o4, e4, c4x⟩ := S2.out k1 (by omega)
          obtain ⟨rfl, rfl⟩ : g4 = g2 ∧ o4 = o2 := by simp at e4; exact ⟨e4.1.symm, e4.2.symm⟩
          clear e4
          obtain ⟨t, et⟩ : ∃ t, t = O[k1]?.getD 0 := ⟨_, rfl⟩
          rw [← et] at f3 hu1
          have p4 : wr.cell? ⟨g4, o4 + k1, none⟩ = some (.int .i64 (t : Nat)) := by rw [ew, et]; exact c4x
          have hnk : ¬ n ≤ k := by omega
          have hnkb : decide (n ≤ k) = false := by simp; omega
          have hkp : 0 < k := by omega
          have hkpb : decide (0 < k) = true := by simp; omega
          have hk1 : (k : Int) - 1 = (k1 : Int) := by omega
          have hgt : decide ((0 : Int) < (k : Int)) = true := by simp; omega
          have hi1 : (0 : Int) ≤ (k1 : Int) ∧ (k1 : Int) < (n : Int) := by omega
          have ht6 : t ≤ 6 := by omega
          have hE6 : ent L u < 1048576 := by omega
          clear ek1
          obtain ⟨bit, eb, hb1, fb⟩ := and_facts (ent L u) t hE6
          have hbit : bit = 1 := by rw [eb]; exact f3
          subst hbit
          obtain ⟨x, ex⟩ : ∃ x, x = ent L u := ⟨_, rfl⟩
          rw [← ex] at p1 fb hE hE6
          clear ew c1x c2x c3x c4x eu ej et f3 hu1 eb ex hk0
          go_wp2
          go_quiet (fail)
          go_wp2
          exact ⟨⟨k + 1, d + _, by omega, congrArg (Value.int .i64) (by omega), by rw [EW.out, World.drewN_drewN]⟩, by simp [intOf]; omega⟩
      · have hkn : k = n := by omega
        subst hkn
        obtain ⟨g2, o2, rfl, c2x⟩ := S2.out 0 (by omega)
        obtain ⟨g4, o4, e4, c4x⟩ := S2.out (k - 1) (by omega)
        obtain ⟨rfl, rfl⟩ : g4 = g2 ∧ o4 = o2 := by simp at e4; exact ⟨e4.1.symm, e4.2.symm⟩
        clear e4
        rw [F4.out] at c2x
        rw [show O[k - 1]?.getD 0 = b by rw [show k - 1 = q by have := EN.out; omega]; exact F5.out] at c4x
        obtain ⟨j, ej⟩ : ∃ j, j = k - 1 := ⟨_, rfl⟩
        rw [← ej] at c4x
        have hj : (k : Int) - 1 = (j : Int) := by omega
        have hi : (0 : Int) < (k : Int) ∧ (0 : Int) ≤ (j : Int) ∧ (j : Int) < (k : Int) := by omega
        have p2 : wr.cell? ⟨g4, o4, none⟩ = some (.int .i64 (a : Nat)) := by rw [ew]; exact c2x
        have p4 : wr.cell? ⟨g4, o4 + j, none⟩ = some (.int .i64 (b : Nat)) := by rw [ew]; exact c4x
        have HE0 : Hid (∀ j, Below w.heap.size w (wr.drewN j)) := Lib.hid fun j => by rw [EW.out]; exact below_drewN (below_drewN BB.out d) j
        have HE1 : Hid (Below w.heap.size w wr) := Lib.hid (by rw [EW.out]; exact below_drewN BB.out d)
        clear ew c2x c4x ej
        go_wp2
        go_ret
        exact ⟨by simp, by first | exact HE1.out | exact HE0.out _⟩
  · have HI := Lib.hid (fun B v w => implWay_no B v L z y (by omega) (by omega) h w)
    have HS := Lib.hid (fun B v w => specWay_no B v L z y (by omega) (by omega) h w)
    clear h
    go_wp2_with fail
    refine (HI.out _ v _ r (HT.out.below b1 (by omega))).mono ?_
    rintro e w2 ⟨vo, rfl, ro0, bb2⟩
    have b2 := b1.trans (bb2.mono b1.size)
    have r_2 := r.below bb2
    go_wp2_with fail
    refine (HS.out _ v _ r_2).mono ?_
    rintro e w3 ⟨vs, rfl, rs0, bb3⟩
    have b3 := b2.trans (bb3.mono b2.size)
    have r_3 := r_2.below bb3
    have ro_3 := ro0.below bb3
    go_wp2_with fail
    refine (sameI_yes _ _ vo vs [] _ ro_3 rs0 (by simp)).mono ?_
    rintro e w4 ⟨rfl, d4, rfl⟩
    have b4 := below_drewN b3 d4
    have r_4 := r_3.drewN d4
    have ro_4 := ro_3.drewN d4
    have rs_4 := rs0.drewN d4
    go_wp2_with fail
    refine (sameI_yes _ _ vo vs [] _ ro_4 rs_4 (by simp)).mono ?_
    rintro e w5 ⟨rfl, d5, rfl⟩
    have b5 := below_drewN b4 d5
    have r_5 := r_4.drewN d5
    have ro_5 := ro_4.drewN d5
    have rs_5 := rs_4.drewN d5
    go_wp2
    go_ret
    exact ⟨by simp, below_drewN b3 (d4 + d5)⟩
end Go.Proofs.YtkngijkhhonikaaDoor
