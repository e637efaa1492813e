/- Two lists compared: the model's l3Equal. -/
import Derived.Test.YtnnobbbljpaieaaDoorBaseA
namespace Go.Proofs.YtnnobbbljpaieaaDoor
open Go.RowKit
set_option linter.unusedVariables false
set_option maxRecDepth 100000

set_option maxHeartbeats 1000000 in
theorem specEq_same (n : Nat) (A A' : Option Addr) (c c' : Nat) (xs ys : List Int) (w : World) (hx : xs.length = n) (hy : ys.length = n) (hs : n ≤ 1048576) (hA0 : Seen w A xs) (hA0' : Seen w A' ys) :
    Calls Tryd.prog 14 #[.slice A n c, .slice A' n c'] w (SaidEq w xs ys) := by
  have HA := Lib.hid hA0
  have HA' := Lib.hid hA0'
  have HX := Lib.hid hx
  have HY := Lib.hid hy
  clear hA0 hA0' hx hy
  go_enter Tryd.func14, Tryd.ntmps14
  go_wp2
  go_loopw [5] (fun i wr => ∃ k m : Nat, k ≤ n ∧ i = .int .i64 k ∧ Hid (xs.take k = ys.take k) ∧ wr = w.drewN m) (fun i _ => n - (intOf i).toNat)
  case atStart => exact ⟨0, 0, Nat.zero_le _, rfl, Lib.hid (by simp), rfl⟩
  case round =>
    obtain ⟨k, m, hk, rfl, ht, rfl⟩ := hrel
    by_cases hlt : k < n
    · obtain ⟨g, o, rfl, _, hc⟩ := HA.out k (by rw [HX.out]; exact hlt)
      obtain ⟨g', o', rfl, _, hc'⟩ := HA'.out k (by rw [HY.out]; exact hlt)
      have hi1 : (0 : Int) ≤ (k : Int) := by omega
      have hi2 : (k : Int) < (n : Int) := by omega
      by_cases he : xs[k]?.getD 0 = ys[k]?.getD 0
      · have hb : (xs[k]?.getD 0 != ys[k]?.getD 0) = false := by simp [he]
        have HE := Lib.hid he
        clear he
        go_wp2
        go_quiet (fail)
        go_wp2
        go_roundw
        case rel => exact ⟨k + 1, _, by omega, by go_num, Lib.hid (take_eq_succ (by have := HX.out; omega) (by rw [HX.out, HY.out]) ht.out HE.out), rfl⟩
        case measure => simp [intOf]; omega
      · have hb : (xs[k]?.getD 0 != ys[k]?.getD 0) = true := by simp [he]
        have HE := Lib.hid he
        clear he
        go_wp2
        go_quiet (fail)
        go_wp2
        go_ret
        exact ⟨ret_bool (by simp; exact ne_of_get HE.out), _, World.drewN_drewN _ _ _⟩
    · go_wp2
      go_ret
      have hkn : k = n := by omega
      subst hkn
      exact ⟨ret_bool (by have h1 := ht.out; rw [List.take_of_length_le (by rw [HX.out]; omega), List.take_of_length_le (by rw [HY.out]; omega)] at h1; simp [h1]), _, rfl⟩
theorem specEq_other (n n' : Nat) (A A' : Option Addr) (c c' : Nat) (w : World) (hne : n ≠ n') :
    Calls Tryd.prog 14 #[.slice A n c, .slice A' n' c'] w fun e w' => e = .returned (.bool false) ∧ w = w' := by
  have hb : ((n : Int) != (n' : Int)) = true := by simp; omega
  go_enter Tryd.func14, Tryd.ntmps14
  go_wp2
  go_ret
  exact ⟨rfl, rfl⟩
/-- **Whether two lists are one.** -/
theorem specEq_any (A A' : Option Addr) (c c' : Nat) (xs ys : List Int) (w : World) (h1 : Seen w A xs) (h2 : Seen w A' ys) (hs : xs.length ≤ 1048576) :
    Calls Tryd.prog 14 #[.slice A xs.length c, .slice A' ys.length c'] w (SaidEq w xs ys) := by
  by_cases hl : ys.length = xs.length
  · rw [hl]
    exact specEq_same xs.length A A' c c' xs ys w rfl hl hs h1 h2
  · refine (specEq_other xs.length ys.length A A' c c' w (by omega)).mono fun e w' ⟨he, hw⟩ => ⟨?_, 0, hw.symm⟩
    rw [he]
    exact ret_bool (by symm; simp; intro h; exact hl (by rw [h]))

end Go.Proofs.YtnnobbbljpaieaaDoor
