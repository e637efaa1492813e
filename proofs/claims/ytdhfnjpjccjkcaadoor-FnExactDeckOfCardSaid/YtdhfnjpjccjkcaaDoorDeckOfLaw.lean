/- The law FnExactDeckOf at each list. -/
import Derived.Test.YtdhfnjpjccjkcaaDoorDeckOfFn
import Derived.Test.YtdhfnjpjccjkcaaDoorDeckOfOf
namespace Go.Proofs.YtdhfnjpjccjkcaaDoor
open Go Go.RowKit
set_option linter.unusedVariables false
set_option maxRecDepth 100000
theorem deckLaw_short (A : Option Addr) (c : Nat) (L : List Int) (w : World) (h : Seen w A L) (hT : Tab w) (hs : L.length ≤ 1048576) :
    Calls Tryd.prog 4 #[.slice A L.length c] w (Fine w) :=
  deckLaw_of A c L w h hT hs _ _ (deckSaid_length L) (fun B v w hr => specDeckOf_any B v L w hr) (fun B v w hr ht => implDeckOf_any B v L w hr ht)
#print axioms deckLaw_short
end Go.Proofs.YtdhfnjpjccjkcaaDoor
