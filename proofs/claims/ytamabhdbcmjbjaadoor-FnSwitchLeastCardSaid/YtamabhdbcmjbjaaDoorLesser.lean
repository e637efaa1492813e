/- Whether a beginning may lead to a lesser code: the closure of least. -/
import Derived.Test.YtamabhdbcmjbjaaDoorCodeDown
import Derived.Test.YtamabhdbcmjbjaaDoorNamings
namespace Go.Proofs.YtamabhdbcmjbjaaDoor
open Go Go.RowKit Go.Shelf
set_option linter.unusedVariables false
set_option maxRecDepth 100000

theorem codeDown_row (A : Option Addr) (c : Nat) (L : List Int) (hg : IsGraph L) (B : Nat) (v : Value) (P : List Nat) (h1P : 1 ≤ P.length) (hP : P.length ≤ L.length) (hPn : ∀ x ∈ P, x < L.length) (w : World) (h : Seen w A L) (hr : Row w B v (ints P)) :
    Calls Tryd.prog 57 #[.slice A L.length c, v] w (NumA w (downC L P)) := by
  obtain ⟨A', c', rfl, s'⟩ := hr.seen
  rw [ints_length]
  exact callsIn_wide.1 (codeDown_in A A' c c' L P hg h1P hP hPn w h s')

set_option maxHeartbeats 2000000 in
theorem lesser_any (A : Option Addr) (c s1 s2 m best : Nat) (L : List Int) (hg : IsGraph L) (P : List Nat) (v : Value) (W : World) (hr : Row W m v (ints P)) (h1P : 1 ≤ P.length) (hP : P.length ≤ L.length) (hPn : ∀ x ∈ P, x < L.length)
    (b1 : Boxed W s1 41 (.slice A L.length c)) (b2 : Boxed W s2 3 (.int .i64 (best : Nat))) (hL : Seen W A L) :
    Calls Tryd.prog 56 (#[v] ++ #[.pointer (some ⟨s1, 0, none⟩), .pointer (some ⟨s2, 0, none⟩)]) W fun e W' => e = .returned (.bool (decide (downC L P < best))) ∧ Below W.heap.size W W' := by
  show Calls Tryd.prog 56 #[v, .pointer (some ⟨s1, 0, none⟩), .pointer (some ⟨s2, 0, none⟩)] W _
  have HC := Lib.hid (codeDown_row A c L hg m v P h1P hP hPn W.drew hL hr)
  have z1 := b1.cell
  have z2 := b2.cell
  have B2 := Lib.hid b2
  obtain ⟨x, ex⟩ : ∃ x, x = downC L P := ⟨_, rfl⟩
  rw [← ex] at HC ⊢
  obtain ⟨n, hn⟩ : ∃ n, n = L.length := ⟨_, rfl⟩
  rw [← hn] at HC z1
  clear hg hr h1P hP hPn b1 b2 hL ex hn
  go_enter Tryd.func56, Tryd.ntmps56
  go_wp2
  go_region_with (go_at_call 57; refine HC.out.mono ?_; rintro e w1 ⟨rfl, hb1⟩; have z3 : w1.cell? ⟨s2, 0, none⟩ = some (.int .i64 (best : Nat)) := (hb1.cell (p := ⟨s2, 0, none⟩) B2.out.lt).trans z2)
  all_goals go_wp2
  all_goals go_ret
  all_goals exact ⟨by first | rfl | simp, ((Below.refl W.heap.size W).drew).trans (show Below W.heap.size W.drew w1 from hb1)⟩
end Go.Proofs.YtamabhdbcmjbjaaDoor
