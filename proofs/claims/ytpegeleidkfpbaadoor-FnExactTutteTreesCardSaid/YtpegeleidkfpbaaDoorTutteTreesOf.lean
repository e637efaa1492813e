/- The law FnExactTutteTrees returns true at each list, and leaves all that was there as it was; out of what the two functions tell. -/
import Derived.Test.YtpegeleidkfpbaaDoorBaseA
import Derived.Test.YtpegeleidkfpbaaDoorRowsKeep
import Derived.Test.YtpegeleidkfpbaaDoorTreesBoth
namespace Go.Proofs.YtpegeleidkfpbaaDoor
open Go.RowKit
set_option linter.unusedVariables false
set_option maxRecDepth 100000

set_option maxHeartbeats 800000 in
theorem lawTutteTrees_long (A : Option Addr) (n c : Nat) (w : World) (h : 1048576 < n) (hm : n ≤ maxLen) :
    Calls Tryd.prog 7 #[.slice A n c] w (Fine w) := by
  unfold maxLen at hm
  have hd : decide ((1048576 : Int) < (n : Int)) = true := by simp; omega
  go_enter Tryd.func7, Tryd.ntmps7
  go_wp2
  go_ret
  exact ⟨rfl, Below.refl _ _⟩

set_option maxHeartbeats 2000000 in
theorem lawTutteTrees_of (A : Option Addr) (c : Nat) (L : List Int) (w : World) (h : Seen w A L) (hT : Tab w) (hs : L.length ≤ 1048576) (T : List (List Int)) (ok : Bool) (hl : T.length ≤ 100) (hr : RowsLe T 100)
    (hS : ∀ B v w, Row w B v L → Calls Tryd.prog 25 #[v] w (ToldR w T ok))
    (hI : ∀ B v w, Row w B v L → Tab w → Calls Tryd.prog 26 #[v] w (ToldR w T ok)) :
    Calls Tryd.prog 7 #[.slice A L.length c] w (Fine w) := by
  have h2 := hT.lt
  have hd : decide ((1048576 : Int) < (L.length : Int)) = false := by simp; omega
  have HS := Lib.hid hS
  have HI := Lib.hid hI
  have HT := Lib.hid hT
  have H := Lib.hid h
  have HL := Lib.hid hl
  have HR := Lib.hid hr
  have HR2 : Hid (RowsLe T 1000) := Lib.hid (fun k => Nat.le_trans (hr k) (by omega))
  have htl : totL T T.length ≤ 10000 := Nat.le_trans (totL_le hr T.length) (Nat.mul_le_mul_right 100 hl)
  have HTOT : Hid (∀ B v w, R2 w B v (mkT T 1 T.length) → Calls Tryd.prog 20 #[v, .int .i64 1] w fun e w' => e = .returned (.int .i64 (1 + totL T T.length)) ∧ w = w') := Lib.hid (fun B v w h => heldSS_any B v T w h hl hr)
  have HMK : Hid (∀ B v w, B ≤ w.heap.size → R2 w B v T → Calls Tryd.prog 19 #[v, .int .i64 1] w (SaidMarkSS w B v 1 T)) := Lib.hid (fun B v w hB h => markSS_any B v T w hB h hl hr)
  unfold SaidMarkSS at HMK
  obtain ⟨N, hN⟩ : ∃ N, N = totL T T.length := ⟨_, rfl⟩
  rw [← hN] at HTOT HMK htl
  have hlt2 : decide ((1 : Int) + (N : Int) < 0) = false := by simp; omega
  clear hS hI hT h hl hr hN htl
  cases ok
  all_goals
    go_enter Tryd.func7, Tryd.ntmps7
    go_wp2_with fail
    refine (to_seen A c L _ hs H.out).mono ?_
    rintro e w1 ⟨v0, rfl, r0, b1⟩
    go_wp2_with fail
    refine (HS.out _ v0 _ r0).mono ?_
    rintro e w2 ⟨u0, rfl, ru, bb2⟩
    have b2 := b1.trans (bb2.mono b1.size)
    have US2 := ru.s
    go_wp2_with fail
    refine (to_seen A c L _ hs (H.out.below b2)).mono ?_
    rintro e w3 ⟨x0, rfl, rx, bb3⟩
    have b3 := b2.trans (bb3.mono b2.size)
    have s23 : w2.heap.size ≤ w3.heap.size := bb3.size
    have US3 := US2.step bb3
    go_wp2_with fail
    refine (HI.out _ x0 _ rx (HT.out.below b3 (by omega))).mono ?_
    rintro e w4 ⟨g0, rfl, rg, bb4⟩
    have b4 := b3.trans (bb4.mono b3.size)
    have s34 : w3.heap.size ≤ w4.heap.size := bb4.size
    have LX := Lib.hid rx.lt
    have US4 := US3.step (bb4.mono s23)
    have rx4 := rx.below bb4
    go_wp2_with fail
    refine (eqSS_yes _ _ g0 u0 T _ rg US4.r2 (Nat.le_trans HL.out (by omega)) HR2.out).mono ?_
    rintro e w5 ⟨rfl, d1, rfl⟩
    have b5 := below_drewN b4 d1
    go_wp2_with fail
    refine (to_seen A c L _ hs (H.out.below b5)).mono ?_
    rintro e w6 ⟨y1, rfl, ry, bb6⟩
    have b6 := b5.trans (bb6.mono b5.size)
    have s46 : w4.heap.size ≤ w6.heap.size := bb6.size
    have US6 := (US4.drewN d1).step (bb6.mono (Nat.le_trans s23 s34))
    have rx6 := (rx4.drewN d1).below bb6
    have rg6 := (rg.drewN d1).below bb6
    go_wp2_with fail
    refine (eq_yes _ _ x0 y1 L _ rx6 ry hs).mono ?_
    rintro e w7 ⟨rfl, d2, rfl⟩
    have b7 := below_drewN b6 d2
    go_wp2_with fail
    refine (mark_any _ x0 L 1 _ (by omega) (by omega) (by omega) (rx6.drewN d2)).mono ?_
    rintro e w8 ⟨rfl, _, hg8⟩
    have s68 : w6.heap.size ≤ w8.heap.size := hg8.size
    have US8 := (US6.drewN d2).step (Below.grown (Below.refl _ _) hg8 (Nat.le_trans s23 (Nat.le_trans s34 s46)) (fun k hk => (LX.out k hk).1))
    have rg8 := (rg6.drewN d2).keep hg8 (fun k hk => (LX.out k hk).2)
    have b8 : Below w.heap.size w w8 := Below.grown b7 hg8 b7.size (fun k hk => Nat.le_trans b2.size (LX.out k hk).1)
    have hlt1 : decide ((1 : Int) + (L.length : Int) < 0) = false := by simp; omega
    go_wp2_with fail
    refine (eqSS_yes _ _ g0 u0 T _ rg8 US8.r2 (Nat.le_trans HL.out (by omega)) HR2.out).mono ?_
    rintro e w9 ⟨rfl, d3, rfl⟩
    have b9 := below_drewN b8 d3
    go_wp2_with fail
    refine (HMK.out _ g0 (w8.drewN d3) (Nat.le_trans s34 (Nat.le_trans s46 s68)) (rg8.drewN d3)).mono ?_
    rintro e w10 ⟨rfl, rgm, bb10⟩
    have US10 := (US8.drewN d3).step (bb10.mono s23)
    have b10 := b9.trans (bb10.mono b3.size)
    have s810 : w8.heap.size ≤ w10.heap.size := bb10.size
    go_wp2_with fail
    refine (HTOT.out _ g0 _ rgm).mono ?_
    rintro e w11 ⟨rfl, rfl⟩
    go_wp2_with fail
    refine (to_seen A c L _ hs (H.out.below b10)).mono ?_
    rintro e w12 ⟨z1, rfl, rz, bb12⟩
    have b12 := b10.trans (bb12.mono b10.size)
    have s1012 : w10.heap.size ≤ w12.heap.size := bb12.size
    have US12 := US10.step (bb12.mono (by omega))
    go_wp2_with fail
    refine (HI.out _ z1 _ rz (HT.out.below b12 (by omega))).mono ?_
    rintro e w13 ⟨h0, rfl, rh, bb13⟩
    have b13 := b12.trans (bb13.mono b12.size)
    have US13 := US12.step (bb13.mono (by omega))
    have rg13 := (rgm.below bb12).below bb13
    go_wp2_with fail
    refine (eqSS_yes _ _ h0 u0 T _ rh US13.r2 (Nat.le_trans HL.out (by omega)) HR2.out).mono ?_
    rintro e w14 ⟨rfl, d4, rfl⟩
    go_wp2_with fail
    refine (HTOT.out _ g0 _ (rg13.drewN d4)).mono ?_
    rintro e w15 ⟨rfl, rfl⟩
    go_wp2
    go_ret
    exact ⟨rfl, below_drewN b13 d4⟩
theorem lawTutteTrees_short (A : Option Addr) (c : Nat) (L : List Int) (w : World) (h : Seen w A L) (hT : Tab w) (hs : L.length ≤ 1048576) :
    Calls Tryd.prog 7 #[.slice A L.length c] w (Fine w) := by
  obtain ⟨T, ok, ⟨q1, q2⟩, q3, q4⟩ := tutteTrees_both L
  exact lawTutteTrees_of A c L w h hT hs T ok q1 q2 q3 q4
end Go.Proofs.YtpegeleidkfpbaaDoor
