/- FineMany, by the program and by the model. -/
import Derived.Test.YtkccaajgdgdaaaaDoorEndFns
namespace Go.Proofs.YtkccaajgdgdaaaaDoor
open Go Go.RowKit
set_option linter.unusedVariables false
set_option maxRecDepth 100000

def kindsAll (C : List Int) : Nat := kinds C.length C

set_option maxHeartbeats 1000000 in
theorem implMany_any (B : Nat) (v : Value) (L : List Int) (w : World) (h : Row w B v L) (hT : TabT w) :
    Calls Tryd.prog 20 #[v] w (NumOkA w (kindsAll (endSaid L).1) (endSaid L).2) := by
  by_cases hg : IsGraph L
  · rw [endSaid_yes hg]
    have H1 := Lib.hid (asG_graph B v L hg w h hT.1)
    have h2 := hT.lt
    obtain ⟨A, c, rfl, hs⟩ := h.seen
    have H2 := Lib.hid (fun w hs ht => plainEnd_any A c L (net_of hg) w hs ht)
    have hE : (endZ L).length ≤ 1000 := by rw [endZ_length]; have := hg.2.1; omega
    dsimp only
    obtain ⟨E, eE⟩ : ∃ E, E = endZ L := ⟨_, rfl⟩
    rw [← eE] at H2 hE ⊢
    have H3 : Hid (∀ (A : Option Addr) (c : Nat) (w : World), Seen w A E → Calls Tryd.prog 35 #[.slice A E.length c] w fun e w' => e = .returned (.int .i64 ((kindsAll E : Nat) : Int)) ∧ Below w.heap.size w w') :=
      Lib.hid (fun A c w hS => by have h := different_any A c E hE w hS; rw [different_kinds] at h; exact h)
    clear hg h eE hE
    go_enter Tryd.func20, Tryd.ntmps20
    go_wp2_with fail
    go_enter Tryd.func32, Tryd.ntmps32
    go_wp2_with fail
    refine H1.out.mono ?_
    rintro e w1 ⟨rfl, b1⟩
    go_wp2_with fail
    refine (H2.out w1 (hs.below b1) (hT.below b1 (by omega))).mono ?_
    rintro e w2 ⟨u, rfl, hr, hb⟩
    obtain ⟨A1, c1, rfl, s1⟩ := hr.seen
    go_wp2_with fail
    refine (H3.out A1 c1 w2 s1).mono ?_
    rintro e w3 ⟨rfl, b3⟩
    go_wp2
    go_ret2
    have b2 := b1.trans (hb.mono b1.size)
    exact ⟨rfl, b2.trans (b3.mono b2.size)⟩
  · rw [endSaid_no hg]
    have H1 := Lib.hid (asG_none B v L hg w h hT.1)
    have H3 : Hid (∀ (w : World), Calls Tryd.prog 35 #[.slice none 0 0] w fun e w' => e = .returned (.int .i64 ((kindsAll [] : Nat) : Int)) ∧ Below w.heap.size w w') :=
      Lib.hid (fun w => by have h := different_any none 0 [] (by simp) w (fun k hk => absurd hk (by simp)); rw [different_kinds] at h; exact h)
    clear hg h
    go_enter Tryd.func20, Tryd.ntmps20
    go_wp2_with fail
    go_enter Tryd.func32, Tryd.ntmps32
    go_wp2_with fail
    refine H1.out.mono ?_
    rintro e w1 ⟨rfl, b1⟩
    go_wp2_with fail
    refine (H3.out w1).mono ?_
    rintro e w3 ⟨rfl, b3⟩
    go_wp2
    go_ret2
    exact ⟨rfl, b1.trans (b3.mono b1.size)⟩

set_option maxHeartbeats 1000000 in
theorem specMany_any (B : Nat) (v : Value) (L : List Int) (hl : L.length ≤ 1048576) (w : World) (h : Row w B v L) :
    Calls Tryd.prog 19 #[v] w (NumOkA w (kindsAll (endSaid L).1) (endSaid L).2) := by
  have H1 := Lib.hid (specEnd_any B v L hl w h)
  have hE := endSaid_length L
  obtain ⟨R, eR⟩ : ∃ R, R = endSaid L := ⟨_, rfl⟩
  rw [← eR] at H1 hE ⊢
  obtain ⟨E, ok⟩ := R
  dsimp only at H1 hE ⊢
  have H3 : Hid (∀ (A : Option Addr) (c : Nat) (w : World), Seen w A E → Calls Tryd.prog 34 #[.slice A E.length c] w fun e w' => e = .returned (.int .i64 ((kindsAll E : Nat) : Int)) ∧ ∃ q, w' = w.drewN q) :=
    Lib.hid (fun A c w hS => specKinds_seen A c E hE w hS)
  clear h eR hE hl
  go_enter Tryd.func19, Tryd.ntmps19
  go_wp2_with fail
  refine H1.out.mono ?_
  rintro e w2 ⟨u, rfl, hr, hb⟩
  obtain ⟨A1, c1, rfl, s1⟩ := hr.seen
  go_wp2_with fail
  refine (H3.out A1 c1 w2 s1).mono ?_
  rintro e w3 ⟨rfl, d, rfl⟩
  go_wp2
  go_ret2
  exact ⟨rfl, below_drewN hb d⟩
end Go.Proofs.YtkccaajgdgdaaaaDoor
