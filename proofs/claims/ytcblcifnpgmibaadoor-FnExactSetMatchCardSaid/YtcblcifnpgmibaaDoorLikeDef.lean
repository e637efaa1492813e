/- Whether a beginning of names fits two graphs; the names that make one the other one. Plain mathematics. -/
import Derived.Test.YtcblcifnpgmibaaDoorBaseA
import Derived.Test.YtcblcifnpgmibaaDoorTryMath
namespace Go.Proofs.YtcblcifnpgmibaaDoor
open Go.RowKit
set_option linter.unusedVariables false
set_option maxRecDepth 100000

def okAt (L M : List Int) (P : List Nat) (v : Nat) : Bool := bt L v (P.length - 1) == bt M (at_ P v) (at_ P (P.length - 1))
def fitB (L M : List Int) (P : List Nat) : Bool := (List.range (P.length - 1)).all (okAt L M P)
theorem fit_of {L M : List Int} {P : List Nat} (h : ∀ v, v < P.length - 1 → okAt L M P v = true) : fitB L M P = true := List.all_eq_true.2 fun v hv => h v (List.mem_range.1 hv)
theorem fit_not {L M : List Int} {P : List Nat} {v : Nat} (hv : v < P.length - 1) (h : okAt L M P v = false) : fitB L M P = false := by
  cases e : fitB L M P with
  | false => rfl
  | true =>
    have := List.all_eq_true.1 e v (List.mem_range.2 hv)
    rw [h] at this
    cases this
def likeL (L M : List Int) : List (List Nat) := allNames (fun _ P => fitB L M P) L.length
end Go.Proofs.YtcblcifnpgmibaaDoor
