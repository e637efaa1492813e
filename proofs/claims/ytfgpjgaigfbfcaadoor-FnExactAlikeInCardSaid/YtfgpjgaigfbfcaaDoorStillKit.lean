/- Imports for regions that only read. -/
import Derived.StillTailTactics
import Derived.Still
namespace Go.Proofs.YtfgpjgaigfbfcaaDoor
end Go.Proofs.YtfgpjgaigfbfcaaDoor
