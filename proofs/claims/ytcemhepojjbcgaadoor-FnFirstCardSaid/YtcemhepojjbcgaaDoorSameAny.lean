/- The program's number of automorphisms. -/
import Derived.Test.YtcemhepojjbcgaaDoorBaseA
import Derived.Test.YtcemhepojjbcgaaDoorSpecAutos
import Derived.Test.YtcemhepojjbcgaaDoorImplSame
namespace Go.Proofs.YtcemhepojjbcgaaDoor
open Go.RowKit
set_option linter.unusedVariables false
set_option maxRecDepth 100000

theorem same_any (A : Option Addr) (c : Nat) (L : List Int) (hL : IsGraph L) (w : World) (sL : Seen w A L) (hT : Tab w) :
    Calls Tryd.prog 80 #[.slice A L.length c] w (NumA w (autosL L).length) := by
  have h := autos_eq hL
  have h2 := implSame_in A c L hL (by rw [h]; have := autos_length hL; omega) w sL hT
  rw [h] at h2
  exact callsIn_wide.1 h2
end Go.Proofs.YtcemhepojjbcgaaDoor
