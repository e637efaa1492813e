/- The law FnMiddleNamed returns true and leaves all that was there as it was, whatever is drawn. -/
import Derived.Test.YtkngijkhhonikaaDoorDrewDef
import Derived.Test.YtkngijkhhonikaaDoorMiddleFns
import Derived.Test.YtkngijkhhonikaaDoorSpecMiddle
import Derived.Test.YtkngijkhhonikaaDoorSpecFrom
import Derived.Test.YtkngijkhhonikaaDoorImplGNamed
import Derived.Test.YtkngijkhhonikaaDoorMidProm
namespace Go.Proofs.YtkngijkhhonikaaDoor
open Go Go.RowKit
set_option linter.unusedVariables false
set_option maxRecDepth 100000

theorem revB_lt {n m : Nat} (h6 : n ≤ 6) : ∀ k, k ≤ n → revB n m k < 64
  | 0, _ => by show 0 < 64; decide
  | k + 1, h => by
    show revB n m k ||| m / 2 ^ k % 2 * 2 ^ (n - 1 - k) < 2 ^ 6
    refine Nat.or_lt_two_pow (revB_lt h6 k (by omega)) ?_
    have h1 : m / 2 ^ k % 2 ≤ 1 := by omega
    have h2 : 2 ^ (n - 1 - k) ≤ 2 ^ 5 := Nat.pow_le_pow_right (by decide) (by omega)
    have h3 := Nat.mul_le_mul h1 h2
    omega
theorem revB_0 {n m k : Nat} (h : m / 2 ^ k % 2 = 0) : revB n m (k + 1) = revB n m k := by
  show revB n m k ||| m / 2 ^ k % 2 * 2 ^ (n - 1 - k) = _
  rw [h, Nat.zero_mul, Nat.or_zero]
theorem revB_1 {n m k : Nat} (h : m / 2 ^ k % 2 = 1) : revB n m (k + 1) = revB n m k ||| 2 ^ (n - 1 - k) := by
  show revB n m k ||| m / 2 ^ k % 2 * 2 ^ (n - 1 - k) = _
  rw [h, Nat.one_mul]
set_option maxHeartbeats 800000 in
theorem fnMiddleNamed_long (A : Option Addr) (n c : Nat) (w : World) (h : 1048576 < n) (hm : n ≤ maxLen) :
    Calls Tryd.prog 9 #[.slice A n c] w (Fine w) := by
  unfold maxLen at hm
  have hd : decide ((1048576 : Int) < (n : Int)) = true := by simp; omega
  go_enter Tryd.func9, Tryd.ntmps9
  go_wp2
  go_ret
  exact ⟨rfl, Below.refl _ _⟩

set_option maxHeartbeats 4000000 in
theorem fnMiddleNamed_short (A : Option Addr) (n c : Nat) (w : World) (hs : n ≤ 1048576) (hT : Tab w)
    (hD : Calls Tryd.prog 20 #[.slice A n c] w (Drew6 w)) :
    Calls Tryd.prog 9 #[.slice A n c] w (Fine w) := by
  have h2 := hT.lt
  have hd : decide ((1048576 : Int) < (n : Int)) = false := by simp; omega
  have HD := Lib.hid hD
  have HT := Lib.hid hT
  clear hD hT hs
  go_enter Tryd.func9, Tryd.ntmps9
  go_wp2_with fail
  refine HD.out.mono ?_
  rintro e w1 ⟨v, L, rfl, l1, l6, r, b1⟩
  by_cases h : IsTree L
  · obtain ⟨_, q2, _, q4⟩ := mid_prom h
    have hrv := rv_names ⟨L.length, by omega⟩
    have hri := rv_isNames ⟨L.length, by omega⟩
    dsimp only at hrv hri
    have HI := Lib.hid (fun B v w => implMid_yes B v L h w)
    have HS := Lib.hid (fun B v w => specMid_yes B v L h w)
    rw [← (mid_facts h).2] at HI HS
    have HN := Lib.hid (fun B B' v v' w => implGNamed_both B B' v v' L (ints (rv L.length L.length)) h.1.1 hri w)
    have hNM : ints (mrun L L.length (nm (ints (rv L.length L.length))) (grid L.length L.length)) = namedL L (rv L.length L.length) := rfl
    rw [hNM] at HN
    have hT2 := tree_named h hrv
    have HM2 := Lib.hid (fun B v w => implMid_yes B v (namedL L (rv L.length L.length)) hT2 w)
    rw [← (mid_facts hT2).2, q4] at HM2
    have hm64 : midT L < 64 := Nat.lt_of_lt_of_le q2 (two_le l6)
    obtain ⟨m, em⟩ : ∃ m, m = midT L := ⟨_, rfl⟩
    rw [← em] at HI HS HM2 hm64
    obtain ⟨M, eM⟩ : ∃ M, M = namedL L (rv L.length L.length) := ⟨_, rfl⟩
    rw [← eM] at HN HM2
    clear h em q2 q4 hrv hri hNM hT2 eM
    go_wp2_with fail
    refine (HI.out _ v _ r (HT.out.below b1 (by omega))).mono ?_
    rintro e w2 ⟨rfl, bb2⟩
    have b2 := b1.trans (bb2.mono b1.size)
    have r_2 := r.below bb2
    go_wp2_with fail
    refine (HS.out _ v _ r_2).mono ?_
    rintro e w3 ⟨rfl, bb3⟩
    have b3 := b2.trans (bb3.mono b2.size)
    have r_3 := r_2.below bb3
    obtain ⟨A1, c1, rfl, _⟩ := r_3.seen
    have RR := Lib.hid r_3
    have BB := Lib.hid b3
    obtain ⟨n, en⟩ : ∃ n, n = L.length := ⟨_, rfl⟩
    rw [← en] at l1 l6 HN HM2 RR ⊢
    obtain ⟨W0, eW0⟩ : ∃ W0, W0 = w3 := ⟨_, rfl⟩
    rw [← eW0] at BB RR ⊢
    have R0 : Hid (Row (W0.alloc (.cells #[] 3)) W0.heap.size (.slice (some ⟨W0.heap.size, 0, none⟩) 0 0) (ints (rv n 0))) := Lib.hid (World.ownsRow_lit (base := W0.heap.size) (e := 3) (size := 1) W0 #[] 0 (Nat.le_refl _) (by unfold maxLen; omega) rfl)
    have B0 := Lib.hid ((Below.refl W0.heap.size W0).alloc (Nat.le_refl _) (.cells #[] 3))
    clear eW0 en HI HS
    go_wp2
    go_loopw [9, 10, 11] (fun o s i wr => ∃ k : Nat, k ≤ n ∧ i = .int .i64 k ∧ s = .int .i64 (revB n m k : Nat) ∧ Hid (Row wr W0.heap.size o (ints (rv n k))) ∧ Hid (Below W0.heap.size W0 wr)) (fun _ _ i _ => n - (intOf i).toNat)
    case atStart => exact ⟨0, Nat.zero_le _, rfl, rfl, R0, B0⟩
    case round =>
      clear R0 B0
      obtain ⟨k, hk, rfl, rfl, hr, hb⟩ := hrel
      by_cases hlt : k < n
      · obtain ⟨z, hz⟩ : ∃ z : Nat, z = n - 1 - k := ⟨_, rfl⟩
        have hst : ints (rv n (k + 1)) = ints (rv n k) ++ [(z : Int)] := by rw [rv_succ, ← hz]; simp [ints]
        have HST := Lib.hid hst
        have HL := Lib.hid (show (ints (rv n k)).length ≤ 100000 by rw [ints_length, rv_length]; omega)
        have hzi : (n : Int) - 1 - (k : Int) = (z : Int) := by omega
        have hz6 : z ≤ 5 := by omega
        have hmb : m < 1048576 := by omega
        have hzl : z < 6 := by omega
        obtain ⟨bit, eb, hb1, f1⟩ := and_facts m k hmb
        have F1 := Lib.hid f1
        clear f1
        obtain ⟨P, eP, hP64, p1, p2, p3⟩ := pow_facts6 hzl
        have P1 := Lib.hid p1
        clear p1 p2 p3
        have hrl := revB_lt (m := m) l6 k hk
        have HR0 : Hid (bit = 0 → revB n m (k + 1) = revB n m k) := Lib.hid fun e => revB_0 (by rw [← eb, e])
        have HR1 : Hid (bit = 1 → revB n m (k + 1) = revB n m k ||| P) := Lib.hid fun e => by rw [revB_1 (by rw [← eb, e]), ← hz, ← eP]
        obtain ⟨s, es⟩ : ∃ s, s = revB n m k := ⟨_, rfl⟩
        rw [← es] at HR0 HR1 hrl ⊢
        have hor : bits .or .i64 (s : Int) (P : Int) = ((s ||| P : Nat) : Int) := i64_or_nat s P (by omega) (by omega)
        have hbit : bit = 0 ∨ bit = 1 := by omega
        have HOR := Lib.hid hor
        clear hst hz eb hb1 eP es hor
        rcases hbit with rfl | rfl
        · have f1 := F1.out; clear HR1 HOR F1 P1
          go_wp2_with (at_builtin; refine append_one rfl (.tmp 59) (.tmp 64) rfl wr W0.heap.size u9 _ (z : Int) rfl rfl hr.out hb.out.size HL.out ?_; intro v2 w2 hr2 hb2)
          go_roundw
          case rel => exact ⟨k + 1, by omega, by go_num, by rw [HR0.out rfl], Lib.hid (by rw [HST.out]; exact hr2.out), Lib.hid (hb.out.trans hb2.out)⟩
          case measure => simp [intOf]; omega
        · have f1 := F1.out; have p1 := P1.out; have hor := HOR.out; clear F1 P1 HOR
          go_wp2_with (at_builtin; refine append_one rfl (.tmp 59) (.tmp 64) rfl wr W0.heap.size u9 _ (z : Int) rfl rfl hr.out hb.out.size HL.out ?_; intro v2 w2 hr2 hb2)
          go_roundw
          case rel => exact ⟨k + 1, by omega, by go_num, by rw [HR1.out rfl], Lib.hid (by rw [HST.out]; exact hr2.out), Lib.hid (hb.out.trans hb2.out)⟩
          case measure => simp [intOf]; omega
      · have hkn : k = n := by omega
        subst hkn
        have bb0 := BB.out.trans (hb.out.mono BB.out.size)
        have rg := RR.out.below hb.out
        have rn := hr.out
        have hrl := revB_lt (m := m) l6 k (Nat.le_refl _)
        obtain ⟨s, es⟩ : ∃ s, s = revB k m k := ⟨_, rfl⟩
        rw [← es] at HM2 hrl ⊢
        clear es
        go_wp2_with fail
        refine (HN.out _ _ _ _ _ rg rn (HT.out.below bb0 (by omega))).mono ?_
        rintro e w5 ⟨vx, rfl, rx0, bb5⟩
        have b5 := bb0.trans (bb5.mono bb0.size)
        go_wp2_with fail
        refine (HM2.out _ vx _ rx0 (HT.out.below b5 (by omega))).mono ?_
        rintro e w6 ⟨rfl, bb6⟩
        have b6 := b5.trans (bb6.mono b5.size)
        go_wp2
        go_ret
        exact ⟨by simp, b6⟩
  · have HI := Lib.hid (fun B v w => implMid_no B v L h w)
    have HS := Lib.hid (fun B v w => specMid_no B v L h w)
    clear h
    go_wp2_with fail
    refine (HI.out _ v _ r (HT.out.below b1 (by omega))).mono ?_
    rintro e w2 ⟨rfl, bb2⟩
    have b2 := b1.trans (bb2.mono b1.size)
    have r_2 := r.below bb2
    go_wp2_with fail
    refine (HS.out _ v _ r_2).mono ?_
    rintro e w3 ⟨rfl, bb3⟩
    have b3 := b2.trans (bb3.mono b2.size)
    have r_3 := r_2.below bb3
    go_wp2
    go_ret
    exact ⟨by simp, b3⟩
end Go.Proofs.YtkngijkhhonikaaDoor
