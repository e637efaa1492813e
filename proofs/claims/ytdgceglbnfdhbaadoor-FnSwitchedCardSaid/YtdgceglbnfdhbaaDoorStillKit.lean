/- Imports for regions that only read. -/
import Derived.StillTailTactics
import Derived.Still
namespace Go.Proofs.YtdgceglbnfdhbaaDoor
end Go.Proofs.YtdgceglbnfdhbaaDoor
