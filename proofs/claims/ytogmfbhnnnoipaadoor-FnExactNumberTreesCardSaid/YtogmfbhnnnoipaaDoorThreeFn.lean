/- NumberThree, by the program and by the model. -/
import Derived.Test.YtogmfbhnnnoipaaDoorThrees
import Derived.Test.YtogmfbhnnnoipaaDoorSpecClosed
import Derived.Test.YtogmfbhnnnoipaaDoorBaseB
namespace Go.Proofs.YtogmfbhnnnoipaaDoor
open Go Go.RowKit
set_option linter.unusedVariables false
set_option maxRecDepth 100000

open Classical in
noncomputable def oneSaid (f : List Int → Nat) (L : List Int) : Nat × Bool := if IsGraph L then (f L, true) else (0, false)
theorem oneSaid_yes {f : List Int → Nat} {L : List Int} (h : IsGraph L) : oneSaid f L = (f L, true) := if_pos h
theorem oneSaid_no {f : List Int → Nat} {L : List Int} (h : ¬ IsGraph L) : oneSaid f L = (0, false) := if_neg h

theorem implThree_any (B : Nat) (v : Value) (L : List Int) (w : World) (h : Row w B v L) (hT : Tab w) :
    Calls Tryd.prog 26 #[v] w (NumOkA w (oneSaid threeN L).1 (oneSaid threeN L).2) := by
  by_cases hg : IsGraph L
  · rw [oneSaid_yes hg]
    have H1 := Lib.hid (asG_graph B v L hg w h hT)
    obtain ⟨A, c, rfl, hs⟩ := h.seen
    have H2 := Lib.hid (fun w hs => callsIn_wide.1 (threes_in A c L hg w hs))
    clear hg h
    go_enter Tryd.func26, Tryd.ntmps26
    go_wp2_with fail
    go_enter Tryd.func54, Tryd.ntmps54
    go_wp2_with fail
    refine H1.out.mono ?_
    rintro e w1 ⟨rfl, b1⟩
    go_wp2_with fail
    refine (H2.out _ (hs.below b1)).mono ?_
    rintro e w2 ⟨rfl, b2⟩
    go_wp2
    go_ret2
    exact ⟨rfl, b1.trans (b2.mono b1.size)⟩
  · rw [oneSaid_no hg]
    have H1 := Lib.hid (asG_none B v L hg w h hT)
    clear hg h
    go_enter Tryd.func26, Tryd.ntmps26
    go_wp2_with fail
    go_enter Tryd.func54, Tryd.ntmps54
    go_wp2_with fail
    refine H1.out.mono ?_
    rintro e w1 ⟨rfl, b1⟩
    go_wp2
    go_ret2
    exact ⟨rfl, b1⟩
theorem specThree_any (B : Nat) (v : Value) (L : List Int) (w : World) (h : Row w B v L) :
    Calls Tryd.prog 25 #[v] w (NumOkA w (oneSaid threeN L).1 (oneSaid threeN L).2) := by
  by_cases hg : IsGraph L
  · rw [oneSaid_yes hg]
    have H0 := Lib.hid (specIn_any B v L true ⟨fun _ => hg, fun _ => rfl⟩ w h)
    obtain ⟨A, c, rfl, hs⟩ := h.seen
    have H1 := Lib.hid (fun w hs => specClosed_seen A c L hg 3 (by omega) w hs)
    have h36 := three_six hg
    have hcl := closed_small L hg.2.1 3 (by omega)
    have H := Lib.hid hs
    obtain ⟨x, ex⟩ : ∃ x, x = closedN L 3 := ⟨_, rfl⟩
    rw [← ex] at H1 h36 hcl
    have hq : ((x : Nat) : Int).tdiv 6 = ((x / 6 : Nat) : Int) := by rw [Int.tdiv_eq_ediv_of_nonneg (by omega)]; omega
    rw [h36] at hq
    have hq2 : wrap64 ((threeN L : Nat) : Int) = ((threeN L : Nat) : Int) := wrap_id (by omega) (by omega)
    obtain ⟨y, ey⟩ : ∃ y, y = threeN L := ⟨_, rfl⟩
    rw [← ey] at hq hq2 ⊢
    clear hg h hs ex h36 hcl ey
    go_enter Tryd.func25, Tryd.ntmps25
    go_wp2_with fail
    refine H0.out.mono ?_
    rintro e w0 ⟨rfl, d, rfl⟩
    go_wp2_with fail
    refine (H1.out (w.drewN d) H.out).mono ?_
    rintro e w1 ⟨rfl, b1⟩
    go_wp2
    go_ret2
    refine ⟨?_, (below_drewN (Below.refl _ w) d).trans b1⟩
    show Ending.returned (.tuple #[.int .i64 (wrap64 (y : Int)), .bool true]) = _
    rw [hq2]
  · rw [oneSaid_no hg]
    have H0 := Lib.hid (specIn_any B v L false ⟨fun h => (by cases h), fun h => absurd h hg⟩ w h)
    clear hg h
    go_enter Tryd.func25, Tryd.ntmps25
    go_wp2_with fail
    refine H0.out.mono ?_
    rintro e w0 ⟨rfl, d, rfl⟩
    go_wp2
    go_ret2
    exact ⟨rfl, below_drewN (Below.refl _ w) d⟩
end Go.Proofs.YtogmfbhnnnoipaaDoor
