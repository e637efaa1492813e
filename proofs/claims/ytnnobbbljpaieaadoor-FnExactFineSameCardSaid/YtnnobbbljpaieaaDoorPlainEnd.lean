/- The end of the colours that are all nought, by the program. -/
import Derived.Test.YtnnobbbljpaieaaDoorEndFn
import Derived.Test.YtnnobbbljpaieaaDoorNetOf
import Derived.Test.YtnnobbbljpaieaaDoorPlainZero
namespace Go.Proofs.YtnnobbbljpaieaaDoor
open Go Go.RowKit
set_option linter.unusedVariables false
set_option maxRecDepth 100000

set_option maxHeartbeats 1000000 in
theorem plain_any (A : Option Addr) (c n : Nat) (hn : n ≤ 1048576) (w : World) : Calls Tryd.prog 37 #[.slice A n c] w (Gave w (zeros n)) := by
  have hmk := run_make_ints n hn w
  have R0 := Lib.hid (madeW_row w n hn)
  have B0 := Lib.hid (madeW_below w n)
  obtain ⟨w1, e1⟩ : ∃ w1, w1 = madeW w n := ⟨_, rfl⟩
  rw [← e1] at hmk R0 B0
  clear e1
  go_enter Tryd.func37, Tryd.ntmps37
  go_wp2
  go_ret
  exact ⟨_, rfl, R0.out, B0.out⟩

set_option maxHeartbeats 1000000 in
theorem plainEnd_any (A : Option Addr) (c : Nat) (L : List Int) (hN : Net L) (w : World) (hL : Seen w A L) (hT : TabT w) :
    Calls Tryd.prog 26 #[.slice A L.length c] w (Gave w (endZ L)) := by
  have h12 := hN.2.1
  have h2 := hT.lt
  have H2 : Hid (∀ (A' : Option Addr) (c' : Nat) (w1 : World), Below w.heap.size w w1 → Seen w1 A' (zeros L.length) → Calls Tryd.prog 36 #[.slice A L.length c, .slice A' L.length c'] w1 (Gave w1 (endZ L))) :=
    Lib.hid (fun A' c' w1 hb hC => by
      have h := end_in A A' c c' L (zeros L.length) hN (zeros_length _) (zeros_hues _) w1 (hL.below hb) hC (hT.below hb (by omega))
      rw [zeros_length] at h
      exact callsIn_wide.1 h)
  have H1 := Lib.hid (plain_any A c L.length (by omega) w)
  obtain ⟨n, hn⟩ : ∃ n, n = L.length := ⟨_, rfl⟩
  rw [← hn] at H1 H2 ⊢
  obtain ⟨E, eE⟩ : ∃ E, E = endZ L := ⟨_, rfl⟩
  rw [← eE] at H2 ⊢
  clear hN hL hT hn eE
  go_enter Tryd.func26, Tryd.ntmps26
  go_wp2_with fail
  refine H1.out.mono ?_
  rintro e w1 ⟨u, rfl, hu, b1⟩
  obtain ⟨A1, c1, hv, s1⟩ := hu.seen
  rw [zeros_length] at hv
  subst hv
  go_wp2_with fail
  refine (H2.out A1 c1 w1 b1 s1).mono ?_
  rintro e w2 ⟨u2, rfl, hu2, b2⟩
  go_wp2
  go_ret
  exact ⟨_, rfl, hu2.mono b1.size, b1.trans (b2.mono b1.size)⟩
end Go.Proofs.YtnnobbbljpaieaaDoor
