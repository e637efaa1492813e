/- The law FnMiddle returns true and leaves all that was there as it was, whatever is drawn. -/
import Derived.Test.YtkngijkhhonikaaDoorDrewDef
import Derived.Test.YtkngijkhhonikaaDoorMiddleFns
import Derived.Test.YtkngijkhhonikaaDoorSpecMiddle
import Derived.Test.YtkngijkhhonikaaDoorSpecFrom
import Derived.Test.YtkngijkhhonikaaDoorMidProm
namespace Go.Proofs.YtkngijkhhonikaaDoor
open Go Go.RowKit
set_option linter.unusedVariables false
set_option maxRecDepth 100000

theorem cnt_sum {m n : Nat} (h6 : n ≤ 6) (hm : m < 2 ^ n) : sumN (fun i => m / 2 ^ i % 2) n = cnt m := by
  have h : sumN (fun i => m / 2 ^ i % 2) 6 = sumN (fun i => m / 2 ^ i % 2) n := sumN_tail h6 (fun i hi => by
    rw [Nat.div_eq_of_lt (Nat.lt_of_lt_of_le hm (Nat.pow_le_pow_right (n := 2) (by decide) hi))])
  rw [← h]
  simp only [sumN, Nat.zero_add]
  unfold cnt
  simp
set_option maxHeartbeats 800000 in
theorem fnMiddle_long (A : Option Addr) (n c : Nat) (w : World) (h : 1048576 < n) (hm : n ≤ maxLen) :
    Calls Tryd.prog 5 #[.slice A n c] w (Fine w) := by
  unfold maxLen at hm
  have hd : decide ((1048576 : Int) < (n : Int)) = true := by simp; omega
  go_enter Tryd.func5, Tryd.ntmps5
  go_wp2
  go_ret
  exact ⟨rfl, Below.refl _ _⟩

set_option maxHeartbeats 4000000 in
theorem fnMiddle_short (A : Option Addr) (n c : Nat) (w : World) (hs : n ≤ 1048576) (hT : Tab w)
    (hD : Calls Tryd.prog 20 #[.slice A n c] w (Drew6 w)) :
    Calls Tryd.prog 5 #[.slice A n c] w (Fine w) := by
  have h2 := hT.lt
  have hd : decide ((1048576 : Int) < (n : Int)) = false := by simp; omega
  have HD := Lib.hid hD
  have HT := Lib.hid hT
  clear hD hT hs
  go_enter Tryd.func5, Tryd.ntmps5
  go_wp2_with fail
  refine HD.out.mono ?_
  rintro e w1 ⟨v, L, rfl, l1, l6, r, b1⟩
  by_cases h : IsTree L
  · obtain ⟨q1, q2, q3, _⟩ := mid_prom h
    have HI := Lib.hid (fun B v w => implMid_yes B v L h w)
    have HS := Lib.hid (fun B v w => specMid_yes B v L h w)
    rw [← (mid_facts h).2] at HI HS
    have hcs := cnt_sum l6 q2
    have HIN : Hid (∀ k, k < L.length → L[k]?.getD 0 = ((ent L k : Nat) : Int) ∧ ent L k < 64) := Lib.hid fun k hk => ⟨ent_int (h.1.1.2.2 k hk).1, Nat.lt_of_lt_of_le (ent_lt (h.1.1.2.2 k hk).1) (two_le l6)⟩
    have hm64 : midT L < 64 := Nat.lt_of_lt_of_le q2 (two_le l6)
    obtain ⟨m, em⟩ : ∃ m, m = midT L := ⟨_, rfl⟩
    rw [← em] at HI HS q1 q3 hcs hm64
    have Q3 := Lib.hid q3
    have HCS := Lib.hid hcs
    have Q1 := Lib.hid q1
    clear h em q1 q2 q3 hcs
    go_wp2_with fail
    refine (HI.out _ v _ r (HT.out.below b1 (by omega))).mono ?_
    rintro e w2 ⟨rfl, bb2⟩
    have b2 := b1.trans (bb2.mono b1.size)
    have r_2 := r.below bb2
    go_wp2_with fail
    refine (HS.out _ v _ r_2).mono ?_
    rintro e w3 ⟨rfl, bb3⟩
    have b3 := b2.trans (bb3.mono b2.size)
    have r_3 := r_2.below bb3
    obtain ⟨A1, c1, rfl, s2⟩ := r_3.seen
    obtain ⟨n, en⟩ : ∃ n, n = L.length := ⟨_, rfl⟩
    rw [← en] at l1 l6 HIN Q3 HCS ⊢
    have EN := Lib.hid en
    obtain ⟨W0, eW0⟩ : ∃ W0, W0 = w3 := ⟨_, rfl⟩
    have BB := Lib.hid b3
    have S2 := Lib.hid s2
    rw [← eW0] at BB S2 ⊢
    clear eW0 en s2 HS HI
    obtain ⟨f, ef⟩ : ∃ f : Nat → Nat, f = fun i => m / 2 ^ i % 2 := ⟨_, rfl⟩
    rw [← ef] at HCS
    have HF : Hid (∀ k, f k = m / 2 ^ k % 2) := Lib.hid fun k => by rw [ef]
    clear ef
    go_wp2
    go_loopw [8, 9] (fun s i wr => ∃ k d : Nat, k ≤ n ∧ i = .int .i64 k ∧ s = .int .i64 (sumN f k : Nat) ∧ sumN f k ≤ k ∧ wr = W0.drewN d) (fun _ i _ => n - (intOf i).toNat)
    case atStart => exact ⟨0, 0, Nat.zero_le _, rfl, rfl, Nat.le_refl _, rfl⟩
    case round =>
      obtain ⟨k, d, hk, rfl, rfl, hsk, ew⟩ := hrel
      have EW := Lib.hid ew
      by_cases hlt : k < n
      · have hst : sumN f (k + 1) = sumN f k + f k := rfl
        have hi : (0 : Int) ≤ (k : Int) ∧ (k : Int) < (n : Int) := by omega
        have hmb : m < 1048576 := by omega
        have hk6 : k < 6 := by omega
        rw [HF.out k] at hst
        have q3 := Q3.out k hlt
        obtain ⟨x1, x2⟩ := HIN.out k hlt
        obtain ⟨g, o, rfl, _, hc⟩ := S2.out k (by rw [← EN.out]; exact hlt)
        rw [x1] at hc
        have hcw : wr.cell? ⟨g, o + k, none⟩ = some (.int .i64 (ent L k : Nat)) := by rw [ew]; exact hc
        obtain ⟨x, ex⟩ : ∃ x, x = ent L k := ⟨_, rfl⟩
        rw [← ex] at hcw q3 x2
        have HAND := Lib.hid (i64_and_nat x m (by omega) (by omega))
        obtain ⟨z, ez⟩ : ∃ z, z = x &&& m := ⟨_, rfl⟩
        rw [← ez] at HAND q3
        obtain ⟨s, es⟩ : ∃ s, s = sumN f k := ⟨_, rfl⟩
        rw [← es] at hst hsk ⊢
        obtain ⟨bit, eb, hb1, f1⟩ := and_facts m k hmb
        have F1 := Lib.hid f1
        clear f1
        rw [← eb] at hst q3
        have hbit : bit = 0 ∨ bit = 1 := by omega
        obtain ⟨P, eP, hP64, p1, p2, p3⟩ := pow_facts6 hk6
        have P1 := Lib.hid p1
        have P3 := Lib.hid p3
        rw [← eP] at q3
        have HST := Lib.hid hst
        have HSK := Lib.hid hsk
        have Q3k := Lib.hid q3
        clear ew hc x1 ex es eP ez hst eb hb1 p1 p2 p3 q3 hmb
        rcases hbit with rfl | rfl
        · have f1 := F1.out
          clear F1 P1 P3 HAND Q3k
          go_wp2
          go_roundw
          case rel => exact ⟨k + 1, d, by omega, by go_num, by rw [HST.out]; simp, by have := HST.out; have := HSK.out; omega, EW.out⟩
          case measure => simp [intOf]; omega
        · by_cases hmP : m = P
          · have hne : ((m : Int) != (P : Int)) = false := by simp; omega
            have f1 := F1.out
            have p1 := P1.out
            clear F1 P1 P3 HAND Q3k hmP
            go_wp2
            go_roundw
            case rel => exact ⟨k + 1, d, by omega, by go_num, by rw [HST.out]; simp, by have := HST.out; have := HSK.out; omega, EW.out⟩
            case measure => simp [intOf]; omega
          · have hz : ¬ z = 0 := fun e => (Q3k.out rfl).elim hmP (fun a => a e)
            have hne : ((m : Int) != (P : Int)) = true := by simp; omega
            have hzb : ((z : Int) == 0) = false := by simp; omega
            have f1 := F1.out
            have p1 := P1.out
            have hand := HAND.out
            clear F1 P1 P3 HAND Q3k
            go_wp2
            go_roundw
            case rel => exact ⟨k + 1, d, by omega, by go_num, by rw [HST.out]; simp, by have := HST.out; have := HSK.out; omega, EW.out⟩
            case measure => simp [intOf]; omega
      · have hkm : k = n := by omega
        subst hkm
        rw [HCS.out]
        have q1 := Q1.out
        obtain ⟨s, es⟩ : ∃ s, s = cnt m := ⟨_, rfl⟩
        rw [← es] at q1 ⊢
        clear ew es hsk
        rcases q1 with rfl | rfl
        · go_wp2
          go_ret
          exact ⟨by simp, by rw [EW.out]; exact below_drewN BB.out d⟩
        · go_wp2
          go_ret
          exact ⟨by simp, by rw [EW.out]; exact below_drewN BB.out d⟩
  · have HI := Lib.hid (fun B v w => implMid_no B v L h w)
    have HS := Lib.hid (fun B v w => specMid_no B v L h w)
    clear h
    go_wp2_with fail
    refine (HI.out _ v _ r (HT.out.below b1 (by omega))).mono ?_
    rintro e w2 ⟨rfl, bb2⟩
    have b2 := b1.trans (bb2.mono b1.size)
    have r_2 := r.below bb2
    go_wp2_with fail
    refine (HS.out _ v _ r_2).mono ?_
    rintro e w3 ⟨rfl, bb3⟩
    have b3 := b2.trans (bb3.mono b2.size)
    have r_3 := r_2.below bb3
    go_wp2
    go_ret
    exact ⟨by simp, b3⟩
end Go.Proofs.YtkngijkhhonikaaDoor
