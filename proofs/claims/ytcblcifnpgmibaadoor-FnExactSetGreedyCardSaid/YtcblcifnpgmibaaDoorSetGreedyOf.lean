/- The law FnExactSetGreedy returns true at each two lists, and leaves all that was there as it was; out of what the two functions tell. -/
import Derived.Test.YtcblcifnpgmibaaDoorBaseA
import Derived.Test.YtcblcifnpgmibaaDoorSpecGreedyFns
import Derived.Test.YtcblcifnpgmibaaDoorGreedyFns
namespace Go.Proofs.YtcblcifnpgmibaaDoor
open Go.RowKit
set_option linter.unusedVariables false
set_option maxRecDepth 100000

set_option maxHeartbeats 800000 in
theorem setGreedyLaw_long (A A' : Option Addr) (n n' c c' : Nat) (w : World) (h : 1048576 < n ∨ 1048576 < n') (hm : n ≤ maxLen) (hm' : n' ≤ maxLen) :
    Calls Tryd.prog 10 #[.slice A n c, .slice A' n' c'] w (Fine w) := by
  unfold maxLen at hm hm'
  by_cases h1 : 1048576 < n
  · have hd : decide ((1048576 : Int) < (n : Int)) = true := by simp; omega
    go_enter Tryd.func10, Tryd.ntmps10
    go_wp2
    go_ret
    exact ⟨rfl, Below.refl _ _⟩
  · have hd : decide ((1048576 : Int) < (n : Int)) = false := by simp; omega
    have hd2 : decide ((1048576 : Int) < (n' : Int)) = true := by simp; omega
    go_enter Tryd.func10, Tryd.ntmps10
    go_wp2
    go_ret
    exact ⟨rfl, Below.refl _ _⟩

set_option maxHeartbeats 3200000 in
theorem setGreedyLaw_of (A A' : Option Addr) (c c' : Nat) (L L' : List Int) (w : World) (h : Seen w A L) (h' : Seen w A' L') (hT : Tab w) (hs : L.length ≤ 1048576) (hs' : L'.length ≤ 1048576) (M : List Int) (ok : Bool) (hM : M.length ≤ 1000)
    (hS : ∀ B B' v v' w, Row w B v L → Row w B' v' L' → Calls Tryd.prog 29 #[v, v'] w (Told w M ok))
    (hI : ∀ B B' v v' w, Row w B v L → Row w B' v' L' → Tab w → Calls Tryd.prog 30 #[v, v'] w (Told w M ok)) :
    Calls Tryd.prog 10 #[.slice A L.length c, .slice A' L'.length c'] w (Fine w) := by
  have h2 := hT.lt
  have hd : decide ((1048576 : Int) < (L.length : Int)) = false := by simp; omega
  have hd2 : decide ((1048576 : Int) < (L'.length : Int)) = false := by simp; omega
  have HS := Lib.hid hS
  have HI := Lib.hid hI
  have HT := Lib.hid hT
  have H := Lib.hid h
  have H' := Lib.hid h'
  clear hS hI hT h h'
  cases ok
  all_goals
    go_enter Tryd.func10, Tryd.ntmps10
    go_wp2_with fail
    refine (to_seen A c L _ hs H.out).mono ?_
    rintro e w1 ⟨v0, rfl, r0, b1⟩
    go_wp2_with fail
    refine (to_seen A' c' L' _ hs' (H'.out.below b1)).mono ?_
    rintro e w1' ⟨v0', rfl, r0', bb1⟩
    have b1' := b1.trans (bb1.mono b1.size)
    go_wp2_with fail
    refine (HS.out _ _ v0 v0' _ (r0.below bb1) r0').mono ?_
    rintro e w2 ⟨u0, rfl, ru, bb2⟩
    have b2 := b1'.trans (bb2.mono b1'.size)
    go_wp2_with fail
    refine (to_seen A c L _ hs (H.out.below b2)).mono ?_
    rintro e w3 ⟨x0, rfl, rx, bb3⟩
    have b3 := b2.trans (bb3.mono b2.size)
    go_wp2_with fail
    refine (to_seen A' c' L' _ hs' (H'.out.below b3)).mono ?_
    rintro e w3' ⟨x1, rfl, ry, bb3'⟩
    have b3' := b3.trans (bb3'.mono b3.size)
    go_wp2_with fail
    refine (HI.out _ _ x0 x1 _ (rx.below bb3') ry (HT.out.below b3' (by omega))).mono ?_
    rintro e w4 ⟨g0, rfl, rg, bb4⟩
    have b4 := b3'.trans (bb4.mono b3'.size)
    have lu := ru.lt
    have lx := rx.lt
    have ly := ry.lt
    have lg := rg.lt
    have LU := Lib.hid lu
    have LX := Lib.hid lx
    have LY := Lib.hid ly
    have LG := Lib.hid lg
    clear lu lx ly lg
    have z3 := bb3'.size
    have ru4 := ((ru.below bb3).below bb3').below bb4
    have rx4 := (rx.below bb3').below bb4
    have ry4 := ry.below bb4
    go_wp2_with fail
    refine (eq_yes _ _ g0 u0 M _ rg ru4 (by omega)).mono ?_
    rintro e w5 ⟨rfl, d1, rfl⟩
    have b5 := below_drewN b4 d1
    go_wp2_with fail
    refine (to_seen A c L _ hs (H.out.below b5)).mono ?_
    rintro e w6 ⟨y1, rfl, rz, bb6⟩
    have b6 := b5.trans (bb6.mono b5.size)
    have ru6 := (ru4.drewN d1).below bb6
    have rx6 := (rx4.drewN d1).below bb6
    have ry6 := (ry4.drewN d1).below bb6
    have rg6 := (rg.drewN d1).below bb6
    go_wp2_with fail
    refine (eq_yes _ _ x0 y1 L _ rx6 rz hs).mono ?_
    rintro e w7 ⟨rfl, d2, rfl⟩
    have b7 := below_drewN b6 d2
    go_wp2_with fail
    refine (to_seen A' c' L' _ hs' (H'.out.below b7)).mono ?_
    rintro e w8 ⟨y2, rfl, rz2, bb8⟩
    have b8 := b7.trans (bb8.mono b7.size)
    have ru8 := (ru6.drewN d2).below bb8
    have rx8 := (rx6.drewN d2).below bb8
    have ry8 := (ry6.drewN d2).below bb8
    have rg8 := (rg6.drewN d2).below bb8
    go_wp2_with fail
    refine (eq_yes _ _ x1 y2 L' _ ry8 rz2 hs').mono ?_
    rintro e w9 ⟨rfl, d3, rfl⟩
    have b9 := below_drewN b8 d3
    go_wp2_with fail
    refine (mark_any _ x0 L 1 _ (by omega) (by omega) (by omega) (rx8.drewN d3)).mono ?_
    rintro e w10 ⟨rfl, _, hg10⟩
    have ru10 := (ru8.drewN d3).keep (apart_of LU.out LX.out (.inl (Nat.le_refl _))) hg10
    have ry10 := (ry8.drewN d3).keep (apart_of LY.out LX.out (.inr (Nat.le_refl _))) hg10
    have rg10 := (rg8.drewN d3).keep (apart_of LG.out LX.out (.inr (by omega))) hg10
    have b10 : Below w.heap.size w w10 := Below.grown b9 hg10 b9.size (fun k hk => Nat.le_trans b2.size (LX.out k hk).1)
    go_wp2_with fail
    refine (mark_any _ x1 L' (1 + L.length) _ (by omega) (by omega) (by omega) ry10).mono ?_
    rintro e w11 ⟨rfl, _, hg11⟩
    have ru11 := ru10.keep (apart_of LU.out LY.out (.inl (by have := bb3.size; omega))) hg11
    have rg11 := rg10.keep (apart_of LG.out LY.out (.inr (Nat.le_refl _))) hg11
    have b11 : Below w.heap.size w w11 := Below.grown b10 hg11 b10.size (fun k hk => Nat.le_trans b3.size (LY.out k hk).1)
    have hlt1 : decide ((1 : Int) + (L.length : Int) + (L'.length : Int) < 0) = false := by simp; omega
    go_wp2_with fail
    refine (eq_yes _ _ g0 u0 M _ rg11 ru11 (by omega)).mono ?_
    rintro e w12 ⟨rfl, d4, rfl⟩
    have b12 := below_drewN b11 d4
    go_wp2_with fail
    refine (mark_any _ g0 M 1 _ (by omega) (by omega) (by omega) (rg11.drewN d4)).mono ?_
    rintro e w13 ⟨rfl, rgm, hg13⟩
    have ru13 := (ru11.drewN d4).keep (apart_of LU.out LG.out (.inl (by have := bb3.size; omega))) hg13
    have b13 : Below w.heap.size w w13 := Below.grown b12 hg13 b12.size (fun k hk => Nat.le_trans b3'.size (LG.out k hk).1)
    go_wp2_with fail
    refine (held_any _ g0 M.length 1 _ (by omega) (by omega) (by omega) rgm).mono ?_
    rintro e w14 ⟨rfl, rfl⟩
    go_wp2_with fail
    refine (to_seen A c L _ hs (H.out.below b13)).mono ?_
    rintro e w15 ⟨z1, rfl, rz1, bb15⟩
    have b15 := b13.trans (bb15.mono b13.size)
    go_wp2_with fail
    refine (to_seen A' c' L' _ hs' (H'.out.below b15)).mono ?_
    rintro e w16 ⟨z2, rfl, rz2', bb16⟩
    have b16 := b15.trans (bb16.mono b15.size)
    go_wp2_with fail
    refine (HI.out _ _ z1 z2 _ (rz1.below bb16) rz2' (HT.out.below b16 (by omega))).mono ?_
    rintro e w17 ⟨h0, rfl, rh, bb17⟩
    have b17 := b16.trans (bb17.mono b16.size)
    have ru17 := ((ru13.below bb15).below bb16).below bb17
    have rg17 := ((rgm.below bb15).below bb16).below bb17
    go_wp2_with fail
    refine (eq_yes _ _ h0 u0 M _ rh ru17 (by omega)).mono ?_
    rintro e w18 ⟨rfl, d5, rfl⟩
    go_wp2_with fail
    refine (held_any _ g0 M.length 1 _ (by omega) (by omega) (by omega) (rg17.drewN d5)).mono ?_
    rintro e w19 ⟨rfl, rfl⟩
    go_wp2
    go_ret
    exact ⟨rfl, below_drewN b17 d5⟩
theorem setGreedyLaw_short (A A' : Option Addr) (c c' : Nat) (L M : List Int) (w : World) (h : Seen w A L) (h' : Seen w A' M) (hT : Tab w) (hs : L.length ≤ 1048576) (hs' : M.length ≤ 1048576) :
    Calls Tryd.prog 10 #[.slice A L.length c, .slice A' M.length c'] w (Fine w) := by
  by_cases hg : IsGraph L
  · by_cases hp : IsNames M L.length
    · exact setGreedyLaw_of A A' c c' L M w h h' hT hs hs' _ true (by rw [ints_length, (gS_length L L.length (natOf M)).2]; have := hg.2.1; omega) (fun B B' v v' w hr hr' => specGr_yes B B' v v' L M hg hp w hr hr') (fun B B' v v' w hr hr' ht => implGr_yes B B' v v' L M hg hp w hr hr' ht)
    · exact setGreedyLaw_of A A' c c' L M w h h' hT hs hs' [] false (by simp) (fun B B' v v' w hr hr' => specGr_bad B B' v v' L M hg hp hs' w hr hr') (fun B B' v v' w hr hr' ht => implGr_bad B B' v v' L M hg hp hs' w hr hr' ht)
  · exact setGreedyLaw_of A A' c c' L M w h h' hT hs hs' [] false (by simp) (fun B B' v v' w hr hr' => specGr_none B B' v v' L M hg w hr hr') (fun B B' v v' w hr hr' ht => implGr_none B B' v v' L M hg w hr hr' ht)
end Go.Proofs.YtcblcifnpgmibaaDoor
