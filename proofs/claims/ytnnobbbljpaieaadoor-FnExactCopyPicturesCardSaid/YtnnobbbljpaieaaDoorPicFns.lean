/- CopyPictures, by the model and by the program. -/
import Derived.Test.YtnnobbbljpaieaaDoorPicSpec
import Derived.Test.YtnnobbbljpaieaaDoorPicFn
import Derived.Test.YtnnobbbljpaieaaDoorBaseA
namespace Go.Proofs.YtnnobbbljpaieaaDoor
open Go Go.RowKit
set_option linter.unusedVariables false
set_option maxRecDepth 100000

open Classical in
noncomputable def picSaid (H G : List Int) : Nat × Bool := if IsGraph H ∧ IsGraph G ∧ H.length ≤ 4 then (pics H G H.length [], true) else (0, false)
theorem picSaid_yes {H G : List Int} (h : IsGraph H ∧ IsGraph G ∧ H.length ≤ 4) : picSaid H G = (pics H G H.length [], true) := if_pos h
theorem picSaid_no {H G : List Int} (h : ¬ (IsGraph H ∧ IsGraph G ∧ H.length ≤ 4)) : picSaid H G = (0, false) := if_neg h

set_option maxHeartbeats 1000000 in
theorem specPic_first (B B' : Nat) (v v' : Value) (L M : List Int) (hL : ¬ IsGraph L) (w : World) (h : Row w B v L) (h' : Row w B' v' M) :
    Calls Tryd.prog 9 #[v, v'] w (NumOkA w 0 false) := by
  have H1 := Lib.hid (specIn_any B v L false ⟨fun h => (by cases h), fun h => absurd h hL⟩ w h)
  clear hL h h'
  go_enter Tryd.func9, Tryd.ntmps9
  go_wp2_with fail
  refine H1.out.mono ?_
  rintro e w1 ⟨rfl, d, rfl⟩
  go_wp2
  go_ret2
  exact ⟨rfl, below_drewN (Below.refl _ w) d⟩
set_option maxHeartbeats 1000000 in
theorem specPic_second (B B' : Nat) (v v' : Value) (L M : List Int) (hL : IsGraph L) (hM : ¬ IsGraph M) (w : World) (h : Row w B v L) (h' : Row w B' v' M) :
    Calls Tryd.prog 9 #[v, v'] w (NumOkA w 0 false) := by
  have H1 := Lib.hid (specIn_any B v L true ⟨fun _ => hL, fun _ => rfl⟩ w h)
  have H2 := Lib.hid (fun w h => specIn_any B' v' M false ⟨fun h => (by cases h), fun h => absurd h hM⟩ w h)
  clear hL hM h
  go_enter Tryd.func9, Tryd.ntmps9
  go_wp2_with fail
  refine H1.out.mono ?_
  rintro e w1 ⟨rfl, d, rfl⟩
  go_wp2_with fail
  refine (H2.out (w.drewN d) h').mono ?_
  rintro e w2 ⟨rfl, d2, rfl⟩
  go_wp2
  go_ret2
  exact ⟨rfl, below_drewN (Below.refl _ w) (d + d2)⟩
set_option maxHeartbeats 1000000 in
theorem specPic_more (B B' : Nat) (v v' : Value) (L M : List Int) (hL : IsGraph L) (hM : IsGraph M) (hl : ¬ L.length ≤ 4) (w : World) (h : Row w B v L) (h' : Row w B' v' M) :
    Calls Tryd.prog 9 #[v, v'] w (NumOkA w 0 false) := by
  have H1 := Lib.hid (specIn_any B v L true ⟨fun _ => hL, fun _ => rfl⟩ w h)
  have H2 := Lib.hid (fun w h => specIn_any B' v' M true ⟨fun _ => hM, fun _ => rfl⟩ w h)
  obtain ⟨A, c, rfl, _⟩ := h.seen
  have h2 := h'
  have hd : decide ((4 : Int) < (L.length : Int)) = true := by simp; omega
  clear hL hM h h'
  go_enter Tryd.func9, Tryd.ntmps9
  go_wp2_with fail
  refine H1.out.mono ?_
  rintro e w1 ⟨rfl, d, rfl⟩
  go_wp2_with fail
  refine (H2.out (w.drewN d) h2).mono ?_
  rintro e w2 ⟨rfl, d2, rfl⟩
  go_wp2
  go_ret2
  exact ⟨rfl, below_drewN (Below.refl _ w) (d + d2)⟩
set_option maxHeartbeats 1000000 in
theorem specPic_both (B B' : Nat) (v v' : Value) (L M : List Int) (hL : IsGraph L) (hM : IsGraph M) (hl : L.length ≤ 4) (w : World) (h : Row w B v L) (h' : Row w B' v' M) :
    Calls Tryd.prog 9 #[v, v'] w (NumOkA w (pics L M L.length []) true) := by
  have H1 := Lib.hid (specIn_any B v L true ⟨fun _ => hL, fun _ => rfl⟩ w h)
  have H2 := Lib.hid (fun w h => specIn_any B' v' M true ⟨fun _ => hM, fun _ => rfl⟩ w h)
  obtain ⟨A, c, rfl, s1⟩ := h.seen
  have h2 := Lib.hid h'
  obtain ⟨A', c', rfl, s2⟩ := h'.seen
  have hd : decide ((4 : Int) < (L.length : Int)) = false := by simp; omega
  have H3 := Lib.hid (fun (W : World) (hb : Below w.heap.size w W) => specPics_seen L M hL hM L.length A A' c c' W.heap.size (.slice (some ⟨W.heap.size, 0, none⟩) 0 0) [] (W.alloc (.cells #[] 3)) (by simp) (fun p hp => by cases hp) ((s1.below hb).below ((Below.refl _ _).alloc (Nat.le_refl _) _)) ((s2.below hb).below ((Below.refl _ _).alloc (Nat.le_refl _) _)) (rowS_newP W).1)
  have HW := Lib.hid (Below.refl w.heap.size w)
  obtain ⟨x, ex⟩ : ∃ x, x = pics L M L.length [] := ⟨_, rfl⟩
  rw [← ex] at H3 ⊢
  clear hL hM h h' s1 s2 hl ex
  go_enter Tryd.func9, Tryd.ntmps9
  go_wp2_with fail
  refine H1.out.mono ?_
  rintro e w1 ⟨rfl, d, rfl⟩
  go_wp2_with fail
  refine (H2.out (w.drewN d) h2.out).mono ?_
  rintro e w2 ⟨rfl, d2, rfl⟩
  obtain ⟨W, eW⟩ : ∃ W, W = (w.drewN d).drewN d2 := ⟨_, rfl⟩
  have hbW : Below w.heap.size w W := by rw [eW]; exact below_drewN (below_drewN HW.out d) d2
  rw [← eW]
  have H4 := Lib.hid (H3.out W hbW)
  have HBW := Lib.hid hbW
  clear eW hbW
  go_wp2_with fail
  refine H4.out.mono ?_
  rintro e w3 ⟨rfl, hb3⟩
  go_wp2
  go_ret2
  exact ⟨rfl, HBW.out.trans ((((Below.refl W.heap.size W).alloc (Nat.le_refl _) _).trans (hb3.mono (by simp))).mono HBW.out.size)⟩

set_option maxHeartbeats 1000000 in
theorem implPic_more (A : Option Addr) (n c : Nat) (v' : Value) (hn : 4 < n) (w : World) :
    Calls Tryd.prog 10 #[.slice A n c, v'] w (NumOkA w 0 false) := by
  have hd : decide ((4 : Int) < (n : Int)) = true := by simp; omega
  go_enter Tryd.func10, Tryd.ntmps10
  go_wp2
  go_ret2
  exact ⟨rfl, Below.refl _ _⟩
set_option maxHeartbeats 1000000 in
theorem implPic_none (A : Option Addr) (n c : Nat) (v' : Value) (hn : n ≤ 4) (w : World) (h : Calls Tryd.prog 16 #[.slice A n c, v'] w (GsNo w)) :
    Calls Tryd.prog 10 #[.slice A n c, v'] w (NumOkA w 0 false) := by
  have hd : decide ((4 : Int) < (n : Int)) = false := by simp; omega
  have H1 := Lib.hid h
  clear h
  go_enter Tryd.func10, Tryd.ntmps10
  go_wp2_with fail
  go_enter Tryd.func19, Tryd.ntmps19
  go_wp2_with fail
  refine H1.out.mono ?_
  rintro e w1 ⟨rfl, b1⟩
  go_wp2
  go_ret2
  exact ⟨rfl, b1⟩
set_option maxHeartbeats 1000000 in
theorem implPic_both (B B' : Nat) (v v' : Value) (L M : List Int) (hL : IsGraph L) (hM : IsGraph M) (hl : L.length ≤ 4) (w : World) (h : Row w B v L) (h' : Row w B' v' M) (hT : Tab w) :
    Calls Tryd.prog 10 #[v, v'] w (NumOkA w (pics L M L.length []) true) := by
  have h2 := hT.lt
  have H1 := Lib.hid (asGs_yes B B' v v' L M hL hM w h h' hT)
  have H2 := Lib.hid (fun (W : World) (hb : Below w.heap.size w W) => picturesIn_any B B' v v' L M hL hM W (h.below hb) (h'.below hb) (hT.below hb h2))
  obtain ⟨A, c, rfl, _⟩ := h.seen
  have hd : decide ((4 : Int) < (L.length : Int)) = false := by simp; omega
  obtain ⟨x, ex⟩ : ∃ x, x = pics L M L.length [] := ⟨_, rfl⟩
  rw [← ex] at H2 ⊢
  obtain ⟨n, en⟩ : ∃ n, n = L.length := ⟨_, rfl⟩
  rw [← en] at H1 H2 hd ⊢
  clear hL hM h h' hT hl ex en
  go_enter Tryd.func10, Tryd.ntmps10
  go_wp2_with fail
  go_enter Tryd.func19, Tryd.ntmps19
  go_wp2_with fail
  refine H1.out.mono ?_
  rintro e w1 ⟨rfl, b1⟩
  go_wp2_with fail
  refine (H2.out w1 b1).mono ?_
  rintro e w2 ⟨rfl, b2⟩
  go_wp2
  go_ret2
  exact ⟨rfl, b1.trans (b2.mono b1.size)⟩

theorem specPic_any (B B' : Nat) (v v' : Value) (L M : List Int) (w : World) (h : Row w B v L) (h' : Row w B' v' M) :
    Calls Tryd.prog 9 #[v, v'] w (NumOkA w (picSaid L M).1 (picSaid L M).2) := by
  by_cases hL : IsGraph L
  · by_cases hM : IsGraph M
    · by_cases hl : L.length ≤ 4
      · rw [picSaid_yes ⟨hL, hM, hl⟩]
        exact specPic_both B B' v v' L M hL hM hl w h h'
      · rw [picSaid_no (fun x => hl x.2.2)]
        exact specPic_more B B' v v' L M hL hM hl w h h'
    · rw [picSaid_no (fun x => hM x.2.1)]
      exact specPic_second B B' v v' L M hL hM w h h'
  · rw [picSaid_no (fun x => hL x.1)]
    exact specPic_first B B' v v' L M hL w h h'
theorem implPic_any (B B' : Nat) (v v' : Value) (L M : List Int) (w : World) (h : Row w B v L) (h' : Row w B' v' M) (hT : Tab w) :
    Calls Tryd.prog 10 #[v, v'] w (NumOkA w (picSaid L M).1 (picSaid L M).2) := by
  by_cases hl : L.length ≤ 4
  · by_cases hL : IsGraph L
    · by_cases hM : IsGraph M
      · rw [picSaid_yes ⟨hL, hM, hl⟩]
        exact implPic_both B B' v v' L M hL hM hl w h h' hT
      · rw [picSaid_no (fun x => hM x.2.1)]
        have h1 := asGs_second B B' v v' L M hL hM w h h' hT
        obtain ⟨A, c, rfl, _⟩ := h.seen
        exact implPic_none A L.length c v' hl w h1
    · rw [picSaid_no (fun x => hL x.1)]
      have h1 := asGs_first B B' v v' L M hL w h h' hT
      obtain ⟨A, c, rfl, _⟩ := h.seen
      exact implPic_none A L.length c v' hl w h1
  · rw [picSaid_no (fun x => hl x.2.2)]
    obtain ⟨A, c, rfl, _⟩ := h.seen
    exact implPic_more A L.length c v' (by omega) w
end Go.Proofs.YtnnobbbljpaieaaDoor
