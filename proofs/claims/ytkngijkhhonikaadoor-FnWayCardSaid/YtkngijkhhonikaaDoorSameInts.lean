/- The laws' sameInts tells whether two lists are one. -/
import Derived.Test.YtkngijkhhonikaaDoorBaseA
namespace Go.Proofs.YtkngijkhhonikaaDoor
open Go Go.RowKit
set_option linter.unusedVariables false

theorem sameI_same (n : Nat) (A A' : Option Addr) (c c' : Nat) (xs ys : List Int) (w : World) (hx : xs.length = n) (hy : ys.length = n) (hs : n ≤ 1048576)
    (hA : ∀ k, k < n → ∃ g, A = some ⟨g, 0, none⟩ ∧ w.cell? ⟨g, k, none⟩ = some (.int .i64 (xs[k]?.getD 0)))
    (hA' : ∀ k, k < n → ∃ g, A' = some ⟨g, 0, none⟩ ∧ w.cell? ⟨g, k, none⟩ = some (.int .i64 (ys[k]?.getD 0))) :
    Calls Tryd.prog 26 #[.slice A n c, .slice A' n c'] w (SaidEq w xs ys) := by
  have HA := Lib.hid hA
  have HA' := Lib.hid hA'
  have HX := Lib.hid hx
  have HY := Lib.hid hy
  clear hA hA' hx hy
  go_enter Tryd.func26, Tryd.ntmps26
  go_wp2
  go_loopw [5] (fun i wr => ∃ k m : Nat, k ≤ n ∧ i = .int .i64 k ∧ Hid (xs.take k = ys.take k) ∧ wr = w.drewN m) (fun i _ => n - (intOf i).toNat)
  case atStart => exact ⟨0, 0, Nat.zero_le _, rfl, Lib.hid (by simp), rfl⟩
  case round =>
    obtain ⟨k, m, hk, rfl, ht, rfl⟩ := hrel
    by_cases hlt : k < n
    · obtain ⟨g, rfl, hc⟩ := HA.out k hlt
      obtain ⟨g', rfl, hc'⟩ := HA'.out k hlt
      have hi1 : (0 : Int) ≤ (k : Int) := by omega
      have hi2 : (k : Int) < (n : Int) := by omega
      by_cases he : xs[k]?.getD 0 = ys[k]?.getD 0
      · have hb : (xs[k]?.getD 0 != ys[k]?.getD 0) = false := by simp [he]
        have HE := Lib.hid he
        clear he
        go_wp2
        go_quiet (fail)
        go_wp2
        go_roundw
        case rel => exact ⟨k + 1, _, by omega, by go_num, Lib.hid (take_eq_succ (by have := HX.out; omega) (by rw [HX.out, HY.out]) ht.out HE.out), rfl⟩
        case measure => simp [intOf]; omega
      · have hb : (xs[k]?.getD 0 != ys[k]?.getD 0) = true := by simp [he]
        have HE := Lib.hid he
        clear he
        go_wp2
        go_quiet (fail)
        go_wp2
        go_ret
        exact ⟨ret_bool (by simp; exact ne_of_get HE.out), _, World.drewN_drewN _ _ _⟩
    · go_wp2
      go_ret
      have hkn : k = n := by omega
      subst hkn
      exact ⟨ret_bool (by have h1 := ht.out; rw [List.take_of_length_le (by rw [HX.out]; omega), List.take_of_length_le (by rw [HY.out]; omega)] at h1; simp [h1]), _, rfl⟩

theorem sameI_other (n n' : Nat) (A A' : Option Addr) (c c' : Nat) (w : World) (hne : n ≠ n') :
    Calls Tryd.prog 26 #[.slice A n c, .slice A' n' c'] w fun e w' => e = .returned (.bool false) ∧ w = w' := by
  have hb : ((n : Int) != (n' : Int)) = true := by simp; omega
  go_enter Tryd.func26, Tryd.ntmps26
  go_wp2
  go_ret
  exact ⟨rfl, rfl⟩

/-- **sameInts tells whether two lists are one.** -/
theorem sameI_any (B B' : Nat) (v1 v2 : Value) (xs ys : List Int) (w : World) (h1 : Row w B v1 xs) (h2 : Row w B' v2 ys) (hs : xs.length ≤ 1048576) :
    Calls Tryd.prog 26 #[v1, v2] w (SaidEq w xs ys) := by
  obtain ⟨A, c, rfl, hA⟩ := h1.see
  obtain ⟨A', c', rfl, hA'⟩ := h2.see
  by_cases hl : ys.length = xs.length
  · rw [hl] at hA' ⊢
    exact sameI_same xs.length A A' c c' xs ys w rfl hl hs (fun k hk => by obtain ⟨g, a, _, b, _⟩ := hA k hk; exact ⟨g, a, b⟩) (fun k hk => by obtain ⟨g, a, _, b, _⟩ := hA' k hk; exact ⟨g, a, b⟩)
  · refine (sameI_other xs.length ys.length A A' c c' w (by omega)).mono fun e w' ⟨he, hw⟩ => ⟨?_, 0, hw.symm⟩
    rw [he]
    exact ret_bool (by symm; simp; intro h; exact hl (by rw [h]))


theorem sameI_yes (B B' : Nat) (v1 v2 : Value) (xs : List Int) (w : World) (h1 : Row w B v1 xs) (h2 : Row w B' v2 xs) (hs : xs.length ≤ 1048576) :
    Calls Tryd.prog 26 #[v1, v2] w (Yes w) :=
  (sameI_any B B' v1 v2 xs xs w h1 h2 hs).mono fun e w' ⟨he, hw⟩ => ⟨by rw [he]; exact ret_bool (by simp), hw⟩
end Go.Proofs.YtkngijkhhonikaaDoor
