/- The law FnExactGraphOf out of what the two functions tell. -/
import Derived.Test.YtdhfnjpjccjkcaaHelp
namespace Go.Proofs.Ytdhfnjpjccjkcaa
open Go.RowKit
set_option linter.unusedVariables false

set_option maxHeartbeats 800000 in
theorem graphOf_law (n c : Int) (L : List Int) (ok : Bool) (hL : L.length ≤ 1000)
    (hS : ∀ w, Calls Try.prog 5 #[.int .i64 n, .int .i64 c] w (Told w L ok))
    (hI : ∀ w, Calls Try.prog 6 #[.int .i64 n, .int .i64 c] w (Told w L ok)) (w : World) :
    Calls Try.prog 3 #[.int .i64 n, .int .i64 c] w (Fine w) := by
  have HS := Lib.hid hS
  have HI := Lib.hid hI
  clear hS hI
  cases ok
  all_goals
    go_enter Try.func3, Try.ntmps3
    go_wp2_with fail
    refine (HS.out _).mono ?_
    rintro e w1 ⟨v0, rfl, hr0, hb1⟩
    go_wp2_with fail
    refine (HI.out _).mono ?_
    rintro e w2 ⟨v1, rfl, hr1, hb2⟩
    go_wp2_with fail
    refine (eq_yes _ _ v1 v0 L _ hr1 (hr0.below hb2) (by omega)).mono ?_
    rintro e w3 ⟨rfl, d1, rfl⟩
    go_wp2_with fail
    refine (mark_any _ v1 L 1 _ (by omega) (by omega) (by omega) (hr1.drewN d1)).mono ?_
    rintro e w4 ⟨rfl, hr1', hg4⟩
    have hr0' : Row w4 w.heap.size v0 L := Row.apart ((hr0.below hb2).drewN d1) (B' := w1.heap.size) (fun k hk => (hr0.lt k hk).2) (fun k hk => (hr1.lt k hk).1) hg4
    have hb4 : Below w.heap.size w w4 := Below.grown (below_drewN (hb1.trans (hb2.mono hb1.size)) d1) hg4 (Nat.le_trans hb1.size hb2.size) (fun k hk => Nat.le_trans hb1.size (hr1.lt k hk).1)
    go_wp2_with fail
    refine (held_any _ v1 L.length 1 _ (by omega) (by omega) (by omega) hr1').mono ?_
    rintro e w5 ⟨rfl, rfl⟩
    go_wp2_with fail
    refine (HI.out _).mono ?_
    rintro e w6 ⟨v2, rfl, hr2, hb6⟩
    go_wp2_with fail
    refine (eq_yes _ _ v2 v0 L _ hr2 (hr0'.below hb6) (by omega)).mono ?_
    rintro e w7 ⟨rfl, d2, rfl⟩
    go_wp2_with fail
    refine (held_any _ v1 L.length 1 _ (by omega) (by omega) (by omega) ((hr1'.below hb6).drewN d2)).mono ?_
    rintro e w8 ⟨rfl, rfl⟩
    go_wp2
    go_ret
    exact ⟨rfl, below_drewN (hb4.trans (hb6.mono hb4.size)) d2⟩
end Go.Proofs.Ytdhfnjpjccjkcaa
