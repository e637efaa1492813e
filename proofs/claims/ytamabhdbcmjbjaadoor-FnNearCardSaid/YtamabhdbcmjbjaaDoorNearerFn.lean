/- Whether a beginning may lead nearer: the closure of nearest. -/
import Derived.Test.YtamabhdbcmjbjaaDoorUnlikeFn
import Derived.Test.YtamabhdbcmjbjaaDoorNamings
import Derived.Deep.RegionWith
namespace Go.Proofs.YtamabhdbcmjbjaaDoor
open Go Go.RowKit Go.Shelf
set_option linter.unusedVariables false
set_option maxRecDepth 100000

theorem unlike_row (A A' : Option Addr) (c c' : Nat) (L M : List Int) (hg : IsGraph L) (hgM : IsGraph M) (hlm : L.length = M.length) (B : Nat) (v : Value) (P : List Nat) (h1P : 1 ≤ P.length) (hP : P.length ≤ L.length) (hPn : ∀ x ∈ P, x < L.length) (w : World) (h : Seen w A L) (h' : Seen w A' M) (hr : Row w B v (ints P)) :
    Calls Tryd.prog 84 #[.slice A L.length c, .slice A' L.length c', v] w (NumA w (unlike L M P)) := by
  obtain ⟨A'', c'', rfl, s'⟩ := hr.seen
  rw [ints_length]
  have h2 := callsIn_wide.1 (unlike_in A A' A'' c c' c'' L M P hg hgM hlm h1P hP hPn w h h' s')
  rw [← hlm] at h2
  exact h2

set_option maxHeartbeats 2000000 in
theorem nearer_any (A A' : Option Addr) (c c' s1 s2 s3 m best : Nat) (L M : List Int) (hg : IsGraph L) (hgM : IsGraph M) (hlm : L.length = M.length) (P : List Nat) (v : Value) (W : World) (hr : Row W m v (ints P)) (h1P : 1 ≤ P.length) (hP : P.length ≤ L.length) (hPn : ∀ x ∈ P, x < L.length)
    (b1 : Boxed W s1 41 (.slice A L.length c)) (b2 : Boxed W s2 41 (.slice A' L.length c')) (b3 : Boxed W s3 3 (.int .i64 (best : Nat))) (hL : Seen W A L) (hM : Seen W A' M) :
    Calls Tryd.prog 85 (#[v] ++ #[.pointer (some ⟨s1, 0, none⟩), .pointer (some ⟨s2, 0, none⟩), .pointer (some ⟨s3, 0, none⟩)]) W fun e W' => e = .returned (.bool (decide (unlike L M P < best))) ∧ Below W.heap.size W W' := by
  show Calls Tryd.prog 85 #[v, .pointer (some ⟨s1, 0, none⟩), .pointer (some ⟨s2, 0, none⟩), .pointer (some ⟨s3, 0, none⟩)] W _
  have HC := Lib.hid (unlike_row A A' c c' L M hg hgM hlm m v P h1P hP hPn W.drew hL hM hr)
  have z1 := b1.cell
  have z2 := b2.cell
  have z3 := b3.cell
  have B3 := Lib.hid b3
  obtain ⟨x, ex⟩ : ∃ x, x = unlike L M P := ⟨_, rfl⟩
  rw [← ex] at HC ⊢
  obtain ⟨n, hn⟩ : ∃ n, n = L.length := ⟨_, rfl⟩
  rw [← hn] at HC z1 z2
  have hdd : decide ((x : Int) < (best : Int)) = decide (x < best) := by rw [decide_eq_decide]; omega
  have HDD := Lib.hid hdd
  clear hg hgM hlm hr h1P hP hPn b1 b2 b3 hL hM ex hn hdd
  go_enter Tryd.func85, Tryd.ntmps85
  go_wp2
  go_region_with (go_at_call 84; refine HC.out.mono ?_; rintro e w1 ⟨rfl, hb1⟩; have z4 : w1.cell? ⟨s3, 0, none⟩ = some (.int .i64 (best : Nat)) := (hb1.cell (p := ⟨s3, 0, none⟩) B3.out.lt).trans z3)
  all_goals go_wp2
  all_goals go_ret
  all_goals exact ⟨by first | rfl | simp, ((Below.refl W.heap.size W).drew).trans (show Below W.heap.size W.drew w1 from hb1)⟩
end Go.Proofs.YtamabhdbcmjbjaaDoor
