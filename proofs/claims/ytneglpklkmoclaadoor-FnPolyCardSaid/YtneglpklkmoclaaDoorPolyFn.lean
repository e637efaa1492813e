/- NumberPoly by the program; l4Poly and NumberPoly by the model. -/
import Derived.Test.YtneglpklkmoclaaDoorMPoly
import Derived.Test.YtneglpklkmoclaaDoorBaseW
import Derived.Test.YtneglpklkmoclaaDoorBaseA
namespace Go.Proofs.YtneglpklkmoclaaDoor
open Go Go.RowKit
set_option linter.unusedVariables false
set_option maxRecDepth 100000

theorem pN_tr (L : List Int) (hL : L.length ≤ 6) (i : Nat) : pN L i = mtr (mpow (adj L) L.length i) := (mtr_closed L hL i).symm

set_option maxHeartbeats 2000000 in
theorem gpoly_fn (A : Option Addr) (c : Nat) (L : List Int) (hg : IsGraph L) (w : World) (h : Seen w A L) :
    Calls Tryd.prog 45 #[.slice A L.length c] w (Gave w (polyL L)) := by
  have H1 := Lib.hid (steps_fn A c L hg w h)
  have H2 := Lib.hid (fun w => mpoly_any (adj L) L.length hg.1 hg.2.1 (pN L) (pN_tr L hg.2.1) (pN_abs L hg.2.1) w)
  have hd : polyL L = pl (pN L) L.length L.length := rfl
  rw [← hd] at H2
  obtain ⟨n, hn⟩ : ∃ n, n = L.length := ⟨_, rfl⟩
  obtain ⟨q, eq⟩ : ∃ q, q = wmx (adj L) := ⟨_, rfl⟩
  rw [← eq] at H1 H2
  rw [← hn] at H1 H2 ⊢
  clear hg h hd hn eq
  go_enter Tryd.func45, Tryd.ntmps45
  go_wp2_with fail
  refine H1.out.mono ?_
  rintro e w1 ⟨rfl, b1⟩
  go_wp2_with fail
  refine (H2.out _).mono ?_
  rintro e w2 ⟨v, rfl, r2, b2⟩
  go_wp2
  go_ret
  exact ⟨v, rfl, r2.mono b1.size, b1.trans (b2.mono b1.size)⟩

open Classical in
noncomputable def polySaid (L : List Int) : List Int × Bool := if IsGraph L then (polyL L, true) else ([], false)
theorem polySaid_yes {L : List Int} (h : IsGraph L) : polySaid L = (polyL L, true) := if_pos h
theorem polySaid_no {L : List Int} (h : ¬ IsGraph L) : polySaid L = ([], false) := if_neg h
theorem polySaid_length (L : List Int) : (polySaid L).1.length ≤ 1000 := by
  by_cases h : IsGraph L
  · rw [polySaid_yes h]
    show (polyL L).length ≤ 1000
    unfold polyL
    rw [pl_length]
    have := h.2.1
    omega
  · rw [polySaid_no h]; simp
theorem implPoly_any (B : Nat) (v : Value) (L : List Int) (w : World) (h : Row w B v L) (hT : Tab w) :
    Calls Tryd.prog 21 #[v] w (Told w (polySaid L).1 (polySaid L).2) := by
  by_cases hg : IsGraph L
  · rw [polySaid_yes hg]
    have H1 := Lib.hid (asG_graph B v L hg w h hT)
    obtain ⟨A, c, rfl, hs⟩ := h.seen
    have H2 := Lib.hid (fun w hs => gpoly_fn A c L hg w hs)
    clear hg h
    go_enter Tryd.func21, Tryd.ntmps21
    go_wp2_with fail
    go_enter Tryd.func37, Tryd.ntmps37
    go_wp2_with fail
    refine H1.out.mono ?_
    rintro e w1 ⟨rfl, b1⟩
    go_wp2_with fail
    refine (H2.out w1 (hs.below b1)).mono ?_
    rintro e w2 ⟨u, rfl, hr, hb⟩
    go_wp2
    go_ret2
    exact ⟨_, rfl, hr.mono b1.size, b1.trans (hb.mono b1.size)⟩
  · rw [polySaid_no hg]
    have H1 := Lib.hid (asG_none B v L hg w h hT)
    clear hg h
    go_enter Tryd.func21, Tryd.ntmps21
    go_wp2_with fail
    go_enter Tryd.func37, Tryd.ntmps37
    go_wp2_with fail
    refine H1.out.mono ?_
    rintro e w1 ⟨rfl, b1⟩
    go_wp2
    go_ret2
    exact ⟨_, rfl, World.ownsRow_nil w1 w.heap.size 3 1, b1⟩
end Go.Proofs.YtneglpklkmoclaaDoor
