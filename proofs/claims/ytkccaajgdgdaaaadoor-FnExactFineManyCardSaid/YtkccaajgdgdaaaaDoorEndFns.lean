/- FineEnd and FineMany, by the program and by the model. -/
import Derived.Test.YtkccaajgdgdaaaaDoorFromFns
import Derived.Test.YtkccaajgdgdaaaaDoorDiffFn
import Derived.Test.YtkccaajgdgdaaaaDoorBaseA
namespace Go.Proofs.YtkccaajgdgdaaaaDoor
open Go Go.RowKit
set_option linter.unusedVariables false
set_option maxRecDepth 100000

/-- One colour for all. -/
def zeros (n : Nat) : List Int := ints (List.replicate n 0)
theorem zeros_length (n : Nat) : (zeros n).length = n := by simp [zeros, ints]
theorem zeros_hues (n : Nat) : Hues (zeros n) := fun x hx => by
  simp only [zeros, ints, List.map_replicate, List.mem_replicate] at hx
  omega
theorem given_zeros {L : List Int} (h : IsGraph L) : GivenC L (zeros L.length) := ⟨h, zeros_length _, zeros_hues _⟩
def endZ (L : List Int) : List Int := endL L (zeros L.length)
theorem endZ_length (L : List Int) : (endZ L).length = L.length := endL_length L _
open Classical in
noncomputable def endSaid (L : List Int) : List Int × Bool := if IsGraph L then (endZ L, true) else ([], false)
theorem endSaid_yes {L : List Int} (h : IsGraph L) : endSaid L = (endZ L, true) := if_pos h
theorem endSaid_no {L : List Int} (h : ¬ IsGraph L) : endSaid L = ([], false) := if_neg h
theorem endSaid_length (L : List Int) : (endSaid L).1.length ≤ 12 := by
  by_cases h : IsGraph L
  · rw [endSaid_yes h]
    show (endZ L).length ≤ 12
    rw [endZ_length]
    have := h.2.1
    omega
  · rw [endSaid_no h]; simp

set_option maxHeartbeats 1000000 in
theorem plain_any (A : Option Addr) (c n : Nat) (hn : n ≤ 1048576) (w : World) : Calls Tryd.prog 54 #[.slice A n c] w (Gave w (zeros n)) := by
  have hmk := run_make_ints n hn w
  have R0 := Lib.hid (madeW_row w n hn)
  have B0 := Lib.hid (madeW_below w n)
  obtain ⟨w1, e1⟩ : ∃ w1, w1 = madeW w n := ⟨_, rfl⟩
  rw [← e1] at hmk R0 B0
  clear e1
  go_enter Tryd.func54, Tryd.ntmps54
  go_wp2
  go_ret
  exact ⟨_, rfl, R0.out, B0.out⟩

set_option maxHeartbeats 1000000 in
theorem plainEnd_any (A : Option Addr) (c : Nat) (L : List Int) (hN : Net L) (w : World) (hL : Seen w A L) (hT : TabT w) :
    Calls Tryd.prog 33 #[.slice A L.length c] w (Gave w (endZ L)) := by
  have h12 := hN.2.1
  have h2 := hT.lt
  have H2 : Hid (∀ (A' : Option Addr) (c' : Nat) (w1 : World), Below w.heap.size w w1 → Seen w1 A' (zeros L.length) → Calls Tryd.prog 31 #[.slice A L.length c, .slice A' L.length c'] w1 (Gave w1 (endZ L))) :=
    Lib.hid (fun A' c' w1 hb hC => by
      have h := end_in A A' c c' L (zeros L.length) hN (zeros_length _) (zeros_hues _) w1 (hL.below hb) hC (hT.below hb (by omega))
      rw [zeros_length] at h
      exact callsIn_wide.1 h)
  have H1 := Lib.hid (plain_any A c L.length (by omega) w)
  obtain ⟨n, hn⟩ : ∃ n, n = L.length := ⟨_, rfl⟩
  rw [← hn] at H1 H2 ⊢
  obtain ⟨E, eE⟩ : ∃ E, E = endZ L := ⟨_, rfl⟩
  rw [← eE] at H2 ⊢
  clear hN hL hT hn eE
  go_enter Tryd.func33, Tryd.ntmps33
  go_wp2_with fail
  refine H1.out.mono ?_
  rintro e w1 ⟨u, rfl, hu, b1⟩
  obtain ⟨A1, c1, hv, s1⟩ := hu.seen
  rw [zeros_length] at hv
  subst hv
  go_wp2_with fail
  refine (H2.out A1 c1 w1 b1 s1).mono ?_
  rintro e w2 ⟨u2, rfl, hu2, b2⟩
  go_wp2
  go_ret
  exact ⟨_, rfl, hu2.mono b1.size, b1.trans (b2.mono b1.size)⟩

set_option maxHeartbeats 1000000 in
theorem implEnd_any (B : Nat) (v : Value) (L : List Int) (w : World) (h : Row w B v L) (hT : TabT w) :
    Calls Tryd.prog 18 #[v] w (Told w (endSaid L).1 (endSaid L).2) := by
  by_cases hg : IsGraph L
  · rw [endSaid_yes hg]
    have H1 := Lib.hid (asG_graph B v L hg w h hT.1)
    have h2 := hT.lt
    obtain ⟨A, c, rfl, hs⟩ := h.seen
    have H2 := Lib.hid (fun w hs ht => plainEnd_any A c L (net_of hg) w hs ht)
    clear hg h
    go_enter Tryd.func18, Tryd.ntmps18
    go_wp2_with fail
    go_enter Tryd.func32, Tryd.ntmps32
    go_wp2_with fail
    refine H1.out.mono ?_
    rintro e w1 ⟨rfl, b1⟩
    go_wp2_with fail
    refine (H2.out w1 (hs.below b1) (hT.below b1 (by omega))).mono ?_
    rintro e w2 ⟨u, rfl, hr, hb⟩
    go_wp2
    go_ret2
    exact ⟨_, rfl, hr.mono b1.size, b1.trans (hb.mono b1.size)⟩
  · rw [endSaid_no hg]
    have H1 := Lib.hid (asG_none B v L hg w h hT.1)
    clear hg h
    go_enter Tryd.func18, Tryd.ntmps18
    go_wp2_with fail
    go_enter Tryd.func32, Tryd.ntmps32
    go_wp2_with fail
    refine H1.out.mono ?_
    rintro e w1 ⟨rfl, b1⟩
    go_wp2
    go_ret2
    exact ⟨_, rfl, World.ownsRow_nil w1 w.heap.size 3 1, b1⟩

set_option maxHeartbeats 1000000 in
theorem specEnd_any (B : Nat) (v : Value) (L : List Int) (hl : L.length ≤ 1048576) (w : World) (h : Row w B v L) :
    Calls Tryd.prog 17 #[v] w (Told w (endSaid L).1 (endSaid L).2) := by
  have hmk := run_make_ints L.length hl w
  have R0 := madeW_row w L.length hl
  have B0 := madeW_below w L.length
  obtain ⟨w1, e1⟩ : ∃ w1, w1 = madeW w L.length := ⟨_, rfl⟩
  rw [← e1] at hmk R0 B0
  clear e1
  have h1 : Row w1 B v L := h.below B0
  have HF : Hid (Calls Tryd.prog 15 #[v, .slice (some ⟨w.heap.size, 0, none⟩) L.length L.length] w1 (Told w1 (endSaid L).1 (endSaid L).2)) := by
    by_cases hg : IsGraph L
    · rw [endSaid_yes hg]
      exact Lib.hid (specFineFrom_yes B _ v _ L (zeros L.length) (given_zeros hg) w1 h1 R0)
    · rw [endSaid_no hg]
      exact Lib.hid (specFineFrom_no B _ v _ L (zeros L.length) (fun h => hg h.1) w1 h1 R0)
  obtain ⟨A, c, rfl, hs⟩ := h.seen
  obtain ⟨R, eR⟩ : ∃ R, R = endSaid L := ⟨_, rfl⟩
  rw [← eR] at HF ⊢
  obtain ⟨n, hn⟩ : ∃ n, n = L.length := ⟨_, rfl⟩
  rw [← hn] at HF hmk ⊢
  have BB := Lib.hid B0
  clear R0 B0 h1 h hs eR hn hl
  go_enter Tryd.func17, Tryd.ntmps17
  go_wp2_with fail
  refine HF.out.mono ?_
  rintro e w2 ⟨u, rfl, hr, hb⟩
  go_wp2
  go_ret2
  exact ⟨_, rfl, hr.mono BB.out.size, BB.out.trans (hb.mono BB.out.size)⟩
end Go.Proofs.YtkccaajgdgdaaaaDoor
