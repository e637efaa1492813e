/- A graph is a net: what the colours' functions ask. -/
import Derived.Test.YtnnobbbljpaieaaDoorBaseA
import Derived.Test.YtnnobbbljpaieaaDoorLookMath
namespace Go.Proofs.YtnnobbbljpaieaaDoor
open Go Go.RowKit
set_option linter.unusedVariables false

theorem net_of {L : List Int} (h : IsGraph L) : Net L := ⟨h.1, by have := h.2.1; omega, fun v hv => by
  have h1 := h.2.2 v hv
  exact ⟨ent L v, ent_int h1.1, ent_lt h1.1, h1.2.1⟩⟩
end Go.Proofs.YtnnobbbljpaieaaDoor
