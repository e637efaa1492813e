/- What sets of edges link: the program's reached against the packed table. -/
import Derived.Test.YtdhpamemkkfhhaaDoorActMath
namespace Go.Proofs.YtdhpamemkkfhhaaDoor
open Go Go.RowKit
set_option linter.unusedVariables false
set_option maxRecDepth 100000

def linkOk (n s : Nat) : Bool := (rows n).all fun e => reachN (ints (ofCode n s)) (2 ^ e.1) / 2 ^ e.2 % 2 == ldT s (placeOf e)
theorem link_1 : allN (linkOk 1) 1 = true := by decide +kernel
theorem link_2 : allN (linkOk 2) 2 = true := by decide +kernel
theorem link_3 : allN (linkOk 3) 8 = true := by decide +kernel
theorem link_4 : allN (linkOk 4) 64 = true := by decide +kernel
theorem link_5 : allN (linkOk 5) 1024 = true := by decide +kernel
theorem link_eq {n s : Nat} (hn : 1 ≤ n) (hn5 : n ≤ 5) (hs : s < codesN n) {e : Nat × Nat} (he : e ∈ rows n) : reachN (ints (ofCode n s)) (2 ^ e.1) / 2 ^ e.2 % 2 = ldT s (placeOf e) := by
  have h : linkOk n s = true := by
    obtain rfl | rfl | rfl | rfl | rfl : n = 1 ∨ n = 2 ∨ n = 3 ∨ n = 4 ∨ n = 5 := by omega
    · exact allN_spec link_1 s hs
    · exact allN_spec link_2 s hs
    · exact allN_spec link_3 s hs
    · exact allN_spec link_4 s hs
    · exact allN_spec link_5 s hs
  exact eq_of_beq (List.all_eq_true.1 h e he)
theorem ldT_le (s i : Nat) : ldT s i ≤ 1 := by unfold ldT; omega
end Go.Proofs.YtdhpamemkkfhhaaDoor
