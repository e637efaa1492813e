/- The members of two sets. Plain mathematics. -/
import Derived.Test.YtamabhdbcmjbjaaDoorBaseA
namespace Go.Proofs.YtamabhdbcmjbjaaDoor
open Go Go.RowKit
set_option linter.unusedVariables false
set_option maxRecDepth 100000

theorem pcf_or (f x y : Nat) : pcf f (x ||| y) + pcf f (x &&& y) = pcf f x + pcf f y := by
  induction f generalizing x y with
  | zero => rfl
  | succ f ih =>
    show (x ||| y) % 2 + pcf f ((x ||| y) / 2) + ((x &&& y) % 2 + pcf f ((x &&& y) / 2)) = x % 2 + pcf f (x / 2) + (y % 2 + pcf f (y / 2))
    have h1 : (x ||| y) / 2 = x / 2 ||| y / 2 := Nat.or_div_two
    have h2 : (x &&& y) / 2 = x / 2 &&& y / 2 := Nat.and_div_two
    have h3 := ih (x / 2) (y / 2)
    have h4 := Nat.or_mod_two_eq_one (a := x) (b := y)
    have h5 := Nat.and_mod_two_eq_one (a := x) (b := y)
    rw [h1, h2]
    omega
theorem pcf_pos {f x : Nat} (hx : x < 2 ^ f) (h : pcf f x = 0) : x = 0 := by
  induction f generalizing x with
  | zero => simpa using hx
  | succ f ih =>
    have h1 : x % 2 + pcf f (x / 2) = 0 := h
    have h2 := ih (x := x / 2) (by rw [Nat.pow_succ] at hx; omega) (by omega)
    omega
end Go.Proofs.YtamabhdbcmjbjaaDoor
