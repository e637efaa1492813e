/- The law FnExactNumberSame at each two lists. -/
import Derived.Test.YtogmfbhnnnoipaaDoorSameFn
import Derived.Test.YtogmfbhnnnoipaaDoorNumberSameOf
namespace Go.Proofs.YtogmfbhnnnoipaaDoor
open Go Go.RowKit

theorem nsameLaw_short (A A' : Option Addr) (c c' : Nat) (L M : List Int) (w : World) (h : Seen w A L) (h' : Seen w A' M) (hT : Tab w) (hs : L.length ≤ 1048576) (hs' : M.length ≤ 1048576) :
    Calls Tryd.prog 9 #[.slice A L.length c, .slice A' M.length c'] w (Fine w) :=
  nsameLaw_of A A' c c' L M _ w h h' hT hs hs' (fun B B' v v' w a b => specNSame_any B B' v v' L M w a b) (fun B B' v v' w a b t => implNSame_any B B' v v' L M w a b t)
end Go.Proofs.YtogmfbhnnnoipaaDoor
