/- The law FnExactSetCounts returns true at each list, and leaves all that was there as it was; out of what the two functions tell. -/
import Derived.Test.YtcblcifnpgmibaaDoorBaseA
import Derived.Test.YtcblcifnpgmibaaDoorCountsFns
namespace Go.Proofs.YtcblcifnpgmibaaDoor
open Go.RowKit
set_option linter.unusedVariables false
set_option maxRecDepth 100000

set_option maxHeartbeats 800000 in
theorem setCountsLaw_long (A : Option Addr) (n c : Nat) (w : World) (h : 1048576 < n) (hm : n ≤ maxLen) :
    Calls Tryd.prog 9 #[.slice A n c] w (Fine w) := by
  unfold maxLen at hm
  have hd : decide ((1048576 : Int) < (n : Int)) = true := by simp; omega
  go_enter Tryd.func9, Tryd.ntmps9
  go_wp2
  go_ret
  exact ⟨rfl, Below.refl _ _⟩

set_option maxHeartbeats 1600000 in
theorem setCountsLaw_of (A : Option Addr) (c : Nat) (L : List Int) (w : World) (h : Seen w A L) (hT : Tab w) (hs : L.length ≤ 1048576) (M : List Int) (ok : Bool) (hM : M.length ≤ 1000)
    (hS : ∀ B v w, Row w B v L → Calls Tryd.prog 25 #[v] w (Told w M ok))
    (hI : ∀ B v w, Row w B v L → Tab w → Calls Tryd.prog 26 #[v] w (Told w M ok)) :
    Calls Tryd.prog 9 #[.slice A L.length c] w (Fine w) := by
  have h2 := hT.lt
  have hd : decide ((1048576 : Int) < (L.length : Int)) = false := by simp; omega
  have HS := Lib.hid hS
  have HI := Lib.hid hI
  have HT := Lib.hid hT
  have H := Lib.hid h
  clear hS hI hT h
  cases ok
  all_goals
    go_enter Tryd.func9, Tryd.ntmps9
    go_wp2_with fail
    refine (to_seen A c L _ hs H.out).mono ?_
    rintro e w1 ⟨v0, rfl, r0, b1⟩
    go_wp2_with fail
    refine (HS.out _ v0 _ r0).mono ?_
    rintro e w2 ⟨u0, rfl, ru, bb2⟩
    have b2 := b1.trans (bb2.mono b1.size)
    go_wp2_with fail
    refine (to_seen A c L _ hs (H.out.below b2)).mono ?_
    rintro e w3 ⟨x0, rfl, rx, bb3⟩
    have b3 := b2.trans (bb3.mono b2.size)
    go_wp2_with fail
    refine (HI.out _ x0 _ rx (HT.out.below b3 (by omega))).mono ?_
    rintro e w4 ⟨g0, rfl, rg, bb4⟩
    have b4 := b3.trans (bb4.mono b3.size)
    have lu := ru.lt
    have lx := rx.lt
    have lg := rg.lt
    have LU := Lib.hid lu
    have LX := Lib.hid lx
    have LG := Lib.hid lg
    clear lu lx lg
    have ru4 := (ru.below bb3).below bb4
    have rx4 := rx.below bb4
    go_wp2_with fail
    refine (eq_yes _ _ g0 u0 M _ rg ru4 (by omega)).mono ?_
    rintro e w5 ⟨rfl, d1, rfl⟩
    have b5 := below_drewN b4 d1
    go_wp2_with fail
    refine (to_seen A c L _ hs (H.out.below b5)).mono ?_
    rintro e w6 ⟨y1, rfl, ry, bb6⟩
    have b6 := b5.trans (bb6.mono b5.size)
    have ru6 := (ru4.drewN d1).below bb6
    have rx6 := (rx4.drewN d1).below bb6
    have rg6 := (rg.drewN d1).below bb6
    go_wp2_with fail
    refine (eq_yes _ _ x0 y1 L _ rx6 ry hs).mono ?_
    rintro e w7 ⟨rfl, d2, rfl⟩
    have b7 := below_drewN b6 d2
    go_wp2_with fail
    refine (mark_any _ x0 L 1 _ (by omega) (by omega) (by omega) (rx6.drewN d2)).mono ?_
    rintro e w8 ⟨rfl, _, hg8⟩
    have ru8 := (ru6.drewN d2).keep (apart_of LU.out LX.out (.inl (Nat.le_refl _))) hg8
    have rg8 := (rg6.drewN d2).keep (apart_of LG.out LX.out (.inr (Nat.le_refl _))) hg8
    have b8 : Below w.heap.size w w8 := Below.grown b7 hg8 b7.size (fun k hk => Nat.le_trans b2.size (LX.out k hk).1)
    have hlt1 : decide ((1 : Int) + (L.length : Int) < 0) = false := by simp; omega
    go_wp2_with fail
    refine (eq_yes _ _ g0 u0 M _ rg8 ru8 (by omega)).mono ?_
    rintro e w9 ⟨rfl, d3, rfl⟩
    have b9 := below_drewN b8 d3
    go_wp2_with fail
    refine (mark_any _ g0 M 1 _ (by omega) (by omega) (by omega) (rg8.drewN d3)).mono ?_
    rintro e w10 ⟨rfl, rgm, hg10⟩
    have ru10 := (ru8.drewN d3).keep (apart_of LU.out LG.out (.inl (by have := bb3.size; omega))) hg10
    have b10 : Below w.heap.size w w10 := Below.grown b9 hg10 b9.size (fun k hk => Nat.le_trans b3.size (LG.out k hk).1)
    go_wp2_with fail
    refine (held_any _ g0 M.length 1 _ (by omega) (by omega) (by omega) rgm).mono ?_
    rintro e w11 ⟨rfl, rfl⟩
    go_wp2_with fail
    refine (to_seen A c L _ hs (H.out.below b10)).mono ?_
    rintro e w12 ⟨z1, rfl, rz, bb12⟩
    have b12 := b10.trans (bb12.mono b10.size)
    go_wp2_with fail
    refine (HI.out _ z1 _ rz (HT.out.below b12 (by omega))).mono ?_
    rintro e w13 ⟨h0, rfl, rh, bb13⟩
    have b13 := b12.trans (bb13.mono b12.size)
    have ru13 := (ru10.below bb12).below bb13
    have rg13 := (rgm.below bb12).below bb13
    go_wp2_with fail
    refine (eq_yes _ _ h0 u0 M _ rh ru13 (by omega)).mono ?_
    rintro e w14 ⟨rfl, d4, rfl⟩
    go_wp2_with fail
    refine (held_any _ g0 M.length 1 _ (by omega) (by omega) (by omega) (rg13.drewN d4)).mono ?_
    rintro e w15 ⟨rfl, rfl⟩
    go_wp2
    go_ret
    exact ⟨rfl, below_drewN b13 d4⟩
theorem setCountsLaw_short (A : Option Addr) (c : Nat) (L : List Int) (w : World) (h : Seen w A L) (hT : Tab w) (hs : L.length ≤ 1048576) :
    Calls Tryd.prog 9 #[.slice A L.length c] w (Fine w) := by
  by_cases hg : IsGraph L
  · exact setCountsLaw_of A c L w h hT hs _ true (by unfold countsL; rw [ints_length, cntR_length]; have := mx_le (freeB L) (allS L.length); unfold mostN; omega) (fun B v w hr => specCn_yes B v L hg w hr) (fun B v w hr ht => implCn_yes B v L hg w hr ht)
  · exact setCountsLaw_of A c L w h hT hs [] false (by simp) (fun B v w hr => specCn_no B v L hg w hr) (fun B v w hr ht => implCn_no B v L hg w hr ht)
end Go.Proofs.YtcblcifnpgmibaaDoor
