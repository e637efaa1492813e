/- The law FnWatch returns true and leaves all that was there as it was, whatever list is drawn. -/
import Derived.Test.YtfhaeocgbihddaaDoorBaseF
import Derived.Test.YtfhaeocgbihddaaDoorSpecWa
import Derived.Test.YtfhaeocgbihddaaDoorBaseS
import Derived.Test.YtfhaeocgbihddaaDoorPromWatch
namespace Go.Proofs.YtfhaeocgbihddaaDoor
open Go Go.RowKit
set_option linter.unusedVariables false
set_option maxRecDepth 100000

set_option maxHeartbeats 800000 in
theorem fnWatch_long (A : Option Addr) (n c : Nat) (w : World) (h : 1048576 < n) (hm : n ≤ maxLen) :
    Calls Tryd.prog 4 #[.slice A n c] w (Fine w) := by
  unfold maxLen at hm
  have hd : decide ((1048576 : Int) < (n : Int)) = true := by simp; omega
  go_enter Tryd.func4, Tryd.ntmps4
  go_wp2
  go_ret
  exact ⟨rfl, Below.refl _ _⟩

set_option maxHeartbeats 4000000 in
theorem fnWatch_short (A : Option Addr) (n c : Nat) (w : World) (hs : n ≤ 1048576) (hT : Tab w)
    (hD : Calls Tryd.prog 14 #[.slice A n c] w (Drew6 w)) :
    Calls Tryd.prog 4 #[.slice A n c] w (Fine w) := by
  have h2 := hT.lt
  have hd : decide ((1048576 : Int) < (n : Int)) = false := by simp; omega
  have HD := Lib.hid hD
  have HT := Lib.hid hT
  clear hD hT hs
  go_enter Tryd.func4, Tryd.ntmps4
  go_wp2_with fail
  refine HD.out.mono ?_
  rintro e w1 ⟨v, L, rfl, l1, l6, r, b1⟩
  by_cases h : IsGraph L
  · have HI := Lib.hid (fun B v w => implWa_yes B v L h w)
    have HS := Lib.hid (fun B v w => specWa_yes B v L h w)
    have HF := Lib.hid (fun B v w => implFr_yes B v L h w)
    have q1 := watch_pos h
    have q2 := watch_free h
    have q3 := watch_al h
    have q4 : mostN L ≤ 15 := mx_le _ _
    obtain ⟨x, ex⟩ : ∃ x, x = watchN L := ⟨_, rfl⟩
    rw [← ex] at HI HS q1 q2 q3
    obtain ⟨f, ef⟩ : ∃ f, f = mostN L := ⟨_, rfl⟩
    rw [← ef] at HF q2 q4
    have HQ := Lib.hid (And.intro q1 (And.intro q2 q3))
    have hb : x ≤ 15 ∧ f ≤ 15 := by omega
    clear h ex ef q1 q2 q3 q4
    go_wp2_with fail
    refine (HI.out _ v _ r (HT.out.below b1 (by omega))).mono ?_
    rintro e w2 ⟨rfl, bb2⟩
    have b2 := b1.trans (bb2.mono b1.size)
    have r_2 := r.below bb2
    go_wp2_with fail
    refine (HS.out _ v _ r_2).mono ?_
    rintro e w3 ⟨rfl, bb3⟩
    have b3 := b2.trans (bb3.mono b2.size)
    have r_3 := r_2.below bb3
    go_wp2_with fail
    refine (HF.out _ v _ r_3 (HT.out.below b3 (by omega))).mono ?_
    rintro e w4 ⟨rfl, bb4⟩
    have b4 := b3.trans (bb4.mono b3.size)
    have r_4 := r_3.below bb4
    obtain ⟨A1, c1, rfl, s1⟩ := r_4.seen
    obtain ⟨W0, eW0⟩ : ∃ W0, W0 = w4 := ⟨_, rfl⟩
    have BB := Lib.hid b4
    rw [← eW0] at s1 BB ⊢
    clear eW0
    obtain ⟨n1, en⟩ : ∃ n1, n1 = L.length := ⟨_, rfl⟩
    have S1 : Hid (∀ k, k < n1 → ∃ b off, A1 = some ⟨b, off, none⟩ ∧ W0.cell? ⟨b, off + k, none⟩ = some (.int .i64 (L[k]?.getD 0))) := Lib.hid fun k hk => by
      obtain ⟨b, off, a, _, hc⟩ := s1 k (by omega)
      exact ⟨b, off, a, hc⟩
    rw [← en] at HQ l1 l6 ⊢
    have HAL : Hid (∀ k, alB L (k + 1) = (alB L k || L[k]?.getD 0 == 0)) := Lib.hid fun k => rfl
    clear en s1
    go_wp2
    go_loop [10, 11] (fun a i => ∃ k : Nat, k ≤ n1 ∧ i = .int .i64 k ∧ a = .bool (alB L k)) (fun _ i => n1 - (intOf i).toNat)
    case atStart => exact ⟨0, Nat.zero_le _, rfl, rfl⟩
    case round =>
      obtain ⟨k, hk, rfl, rfl⟩ := hrel
      by_cases hlt : k < n1
      · obtain ⟨b, off, rfl, hc⟩ := S1.out k hlt
        have hal := HAL.out k
        obtain ⟨y, ey⟩ : ∃ y, y = L[k]?.getD 0 := ⟨_, rfl⟩
        obtain ⟨z, ez⟩ : ∃ z, z = alB L k := ⟨_, rfl⟩
        rw [← ey] at hc hal
        rw [← ez] at hal ⊢
        have HN := Lib.hid hal
        clear hal ey ez
        have hi : (0 : Int) ≤ (k : Int) ∧ (k : Int) < (n1 : Int) := by omega
        cases z with
        | true =>
          go_wp2
          go_round
          case rel => exact ⟨k + 1, by omega, by go_num, by rw [HN.out]; rfl⟩
          case measure => simp [intOf]; omega
        | false =>
          by_cases h0 : y = 0
          · have e0 : (y == 0) = true := by rw [h0]; rfl
            go_wp2
            go_round
            case rel => exact ⟨k + 1, by omega, by go_num, by rw [HN.out, e0]; rfl⟩
            case measure => simp [intOf]; omega
          · have e0 : (y == 0) = false := by simpa using h0
            go_wp2
            go_round
            case rel => exact ⟨k + 1, by omega, by go_num, by rw [HN.out, e0]; rfl⟩
            case measure => simp [intOf]; omega
      · have hke : k = n1 := by omega
        subst hke
        obtain ⟨q1, q2, q3⟩ := HQ.out
        have d1 : decide ((1 : Int) ≤ (x : Int)) = true := by simp; omega
        have d2 : decide ((x : Int) ≤ (f : Int)) = true := by simp; omega
        obtain ⟨z, ez⟩ : ∃ z, z = alB L k := ⟨_, rfl⟩
        rw [← ez] at q3 ⊢
        clear ez HQ
        cases z with
        | true =>
          clear q3
          go_wp2
          all_goals first | (go_ret; exact ⟨by simp, BB.out⟩) | (exfalso; omega)
        | false =>
          have q5 : 2 * x ≤ k := by rcases q3 with q | q; (cases q); exact q
          have d3 : decide (2 * (x : Int) ≤ (k : Int)) = true := by simp; omega
          clear q3
          go_wp2
          all_goals first | (go_ret; exact ⟨by simp, BB.out⟩) | (exfalso; omega)
  · have HI := Lib.hid (fun B v w => implWa_no B v L h w)
    have HS := Lib.hid (fun B v w => specWa_no B v L h w)
    clear h
    go_wp2_with fail
    refine (HI.out _ v _ r (HT.out.below b1 (by omega))).mono ?_
    rintro e w2 ⟨rfl, bb2⟩
    have b2 := b1.trans (bb2.mono b1.size)
    have r_2 := r.below bb2
    go_wp2_with fail
    refine (HS.out _ v _ r_2).mono ?_
    rintro e w3 ⟨rfl, bb3⟩
    have b3 := b2.trans (bb3.mono b2.size)
    have r_3 := r_2.below bb3
    go_wp2
    go_ret
    exact ⟨by simp, b3⟩
end Go.Proofs.YtfhaeocgbihddaaDoor
