/- Imports for regions that only read. -/
import Derived.StillTailTactics
import Derived.Still
namespace Go.Proofs.YtedjnenbmhajiaaDoor
end Go.Proofs.YtedjnenbmhajiaaDoor
