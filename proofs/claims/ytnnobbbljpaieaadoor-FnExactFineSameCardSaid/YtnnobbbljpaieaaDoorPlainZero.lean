/- The colours that are all nought, and their end. -/
import Derived.Test.YtnnobbbljpaieaaDoorKindsMath
import Derived.Test.YtnnobbbljpaieaaDoorBaseA
namespace Go.Proofs.YtnnobbbljpaieaaDoor
open Go Go.RowKit
set_option linter.unusedVariables false

/-- One colour for all. -/
def zeros (n : Nat) : List Int := ints (List.replicate n 0)
theorem zeros_length (n : Nat) : (zeros n).length = n := by simp [zeros, ints]
theorem zeros_hues (n : Nat) : Hues (zeros n) := fun x hx => by
  simp only [zeros, ints, List.map_replicate, List.mem_replicate] at hx
  omega
def endZ (L : List Int) : List Int := endL L (zeros L.length)
theorem endZ_length (L : List Int) : (endZ L).length = L.length := endL_length L _
end Go.Proofs.YtnnobbbljpaieaaDoor
