/-
  NARROWER THAN 'FOR EVERY INPUT', by the rows' own cells (each row's printed sentence says how): FnExactTutteRank: laid · FnExactTutteSets: laid · FnExactTutteEdges: laid · FnExactTutteActive: laid · FnExactTutteTrees: laid · FnExactTutteAt: laid · FnExactTutteColours: laid · FnExactTutteFlows: laid.
  DERIVED. THE GIVEN ROWS OF THIS SEAT. 8 by the template 'for every input the law returns true; each argument reads behind the call as it read before'; 0 by the template 'total and deterministic' (their statements: YtdhpamemkkfhhaaDoorTotals.lean).
  GIVEN WITH THE SEED: the statements are not yours to turn. If you find one false, say at which input.
  Laid BY PROGRAM, IN A SANDBOX (cutbox-rows.mjs): the forced cells as the released guide's own fill.sh prints them over the translation 3608c856f95a2e48… (all of the seat's roots in one cut). By AI agents, Wed Nov 11 2026. No macro, syntax, notation, axiom, sorry.
-/
import Derived.Test.YtdhpamemkkfhhaaDoorChecked
import GoSem.Claim
import GoSem.ClaimJoined
import GoSem.ClaimMapViews
import Derived.JoinedTies
import Derived.KernelRfl
namespace Go.Proofs.YtdhpamemkkfhhaaDoor
/- THE CELL 'sum', in the pinned program and in every row, IS THE sha256 OF THE DUMP (.gsa) THAT YtdhpamemkkfhhaaDoorProg.lean LOADS. Nothing in Lean hashes anything: it is a label: what it is worth is what the hold of that sum in a sandbox is worth. -/
noncomputable def Tryd.pinned : Pinned := { name := "ytdhpamemkkfhhaadoor", sum := "3608c856f95a2e487172ef642038b44e763208a6b845152068578a7a337e6a41", checked := Tryd.checked }
namespace Rows
def none {H : Type} : Left H := { results := [], args := [] }

/- WHAT THE LISTED PACKAGE-LEVEL VARIABLES READ AS WHEN THE CALL BEGINS. Each datum BY PROGRAM (the guide's laid-datum.mjs) off the statement by which the dump's own 'gosem.cut.vars' lays the variable. In a bare row this is a premise. The card (YtdhpamemkkfhhaaDoorCards.lean) ties it to the program's text. -/
def laid_math_bits_deBruijn32tab {H : Type} : DataW H := .agg [.lit (.int .u8 0), .lit (.int .u8 1), .lit (.int .u8 28), .lit (.int .u8 2), .lit (.int .u8 29), .lit (.int .u8 14), .lit (.int .u8 24), .lit (.int .u8 3), .lit (.int .u8 30), .lit (.int .u8 22), .lit (.int .u8 20), .lit (.int .u8 15), .lit (.int .u8 25), .lit (.int .u8 17), .lit (.int .u8 4), .lit (.int .u8 8), .lit (.int .u8 31), .lit (.int .u8 27), .lit (.int .u8 13), .lit (.int .u8 23), .lit (.int .u8 21), .lit (.int .u8 19), .lit (.int .u8 16), .lit (.int .u8 7), .lit (.int .u8 26), .lit (.int .u8 12), .lit (.int .u8 18), .lit (.int .u8 6), .lit (.int .u8 11), .lit (.int .u8 5), .lit (.int .u8 10), .lit (.int .u8 9)]
def laid_math_bits_deBruijn64tab {H : Type} : DataW H := .agg [.lit (.int .u8 0), .lit (.int .u8 1), .lit (.int .u8 56), .lit (.int .u8 2), .lit (.int .u8 57), .lit (.int .u8 49), .lit (.int .u8 28), .lit (.int .u8 3), .lit (.int .u8 61), .lit (.int .u8 58), .lit (.int .u8 42), .lit (.int .u8 50), .lit (.int .u8 38), .lit (.int .u8 29), .lit (.int .u8 17), .lit (.int .u8 4), .lit (.int .u8 62), .lit (.int .u8 47), .lit (.int .u8 59), .lit (.int .u8 36), .lit (.int .u8 45), .lit (.int .u8 43), .lit (.int .u8 51), .lit (.int .u8 22), .lit (.int .u8 53), .lit (.int .u8 39), .lit (.int .u8 33), .lit (.int .u8 30), .lit (.int .u8 24), .lit (.int .u8 18), .lit (.int .u8 12), .lit (.int .u8 5), .lit (.int .u8 63), .lit (.int .u8 55), .lit (.int .u8 48), .lit (.int .u8 27), .lit (.int .u8 60), .lit (.int .u8 41), .lit (.int .u8 37), .lit (.int .u8 16), .lit (.int .u8 46), .lit (.int .u8 35), .lit (.int .u8 44), .lit (.int .u8 21), .lit (.int .u8 52), .lit (.int .u8 32), .lit (.int .u8 23), .lit (.int .u8 11), .lit (.int .u8 54), .lit (.int .u8 26), .lit (.int .u8 40), .lit (.int .u8 15), .lit (.int .u8 34), .lit (.int .u8 20), .lit (.int .u8 31), .lit (.int .u8 10), .lit (.int .u8 25), .lit (.int .u8 14), .lit (.int .u8 19), .lit (.int .u8 9), .lit (.int .u8 13), .lit (.int .u8 8), .lit (.int .u8 7), .lit (.int .u8 6)]

/-- 'laws.FnExactTutteRank': WHATEVER THE INPUT: true; the input reads as it did. -/
def fnExactTutteRankSpec : ChangeSpec := { name := "fnExactTutteRank", fn := fun _ => fun
  | [d1, d2] => { results := [.lit (.bool true)], args := [d1, d2] }
  | _ => none }
def fnExactTutteRankRow : OpenClaim := { program := "ytdhpamemkkfhhaadoor", sum := "3608c856f95a2e487172ef642038b44e763208a6b845152068578a7a337e6a41", func := "loop.example/graphpieces/laws.FnExactTutteRank", spec := "fnExactTutteRank", unfollowed := true, recurses := true, named := ["math/bits.deBruijn32tab", "math/bits.deBruijn64tab"], apart := false, laid := [("math/bits.deBruijn32tab", laid_math_bits_deBruijn32tab), ("math/bits.deBruijn64tab", laid_math_bits_deBruijn64tab)] }
def FnExactTutteRankSaid : Prop := fnExactTutteRankRow.holds Tryd.pinned (OpenSpec.ofChange fnExactTutteRankSpec)

/-- ITS FALSE NEIGHBOUR: 'it returns false'. Refute it at one input. -/
def fnExactTutteRankWrong : ChangeSpec := { name := "fnExactTutteRank", fn := fun _ => fun
  | [d1, d2] => { results := [.lit (.bool false)], args := [d1, d2] }
  | _ => none }
def FnExactTutteRankWrongFalsely : Prop := fnExactTutteRankRow.holds Tryd.pinned (OpenSpec.ofChange fnExactTutteRankWrong)

/-- 'laws.FnExactTutteSets': WHATEVER THE INPUT: true; the input reads as it did. -/
def fnExactTutteSetsSpec : ChangeSpec := { name := "fnExactTutteSets", fn := fun _ => fun
  | [d] => { results := [.lit (.bool true)], args := [d] }
  | _ => none }
def fnExactTutteSetsRow : OpenClaim := { program := "ytdhpamemkkfhhaadoor", sum := "3608c856f95a2e487172ef642038b44e763208a6b845152068578a7a337e6a41", func := "loop.example/graphpieces/laws.FnExactTutteSets", spec := "fnExactTutteSets", unfollowed := true, recurses := true, named := ["math/bits.deBruijn32tab", "math/bits.deBruijn64tab"], apart := false, laid := [("math/bits.deBruijn32tab", laid_math_bits_deBruijn32tab), ("math/bits.deBruijn64tab", laid_math_bits_deBruijn64tab)] }
def FnExactTutteSetsSaid : Prop := fnExactTutteSetsRow.holds Tryd.pinned (OpenSpec.ofChange fnExactTutteSetsSpec)

/-- ITS FALSE NEIGHBOUR: 'it returns false'. Refute it at one input. -/
def fnExactTutteSetsWrong : ChangeSpec := { name := "fnExactTutteSets", fn := fun _ => fun
  | [d] => { results := [.lit (.bool false)], args := [d] }
  | _ => none }
def FnExactTutteSetsWrongFalsely : Prop := fnExactTutteSetsRow.holds Tryd.pinned (OpenSpec.ofChange fnExactTutteSetsWrong)

/-- 'laws.FnExactTutteEdges': WHATEVER THE INPUT: true; the input reads as it did. -/
def fnExactTutteEdgesSpec : ChangeSpec := { name := "fnExactTutteEdges", fn := fun _ => fun
  | [d] => { results := [.lit (.bool true)], args := [d] }
  | _ => none }
def fnExactTutteEdgesRow : OpenClaim := { program := "ytdhpamemkkfhhaadoor", sum := "3608c856f95a2e487172ef642038b44e763208a6b845152068578a7a337e6a41", func := "loop.example/graphpieces/laws.FnExactTutteEdges", spec := "fnExactTutteEdges", unfollowed := true, recurses := true, named := ["math/bits.deBruijn32tab", "math/bits.deBruijn64tab"], apart := false, laid := [("math/bits.deBruijn32tab", laid_math_bits_deBruijn32tab), ("math/bits.deBruijn64tab", laid_math_bits_deBruijn64tab)] }
def FnExactTutteEdgesSaid : Prop := fnExactTutteEdgesRow.holds Tryd.pinned (OpenSpec.ofChange fnExactTutteEdgesSpec)

/-- ITS FALSE NEIGHBOUR: 'it returns false'. Refute it at one input. -/
def fnExactTutteEdgesWrong : ChangeSpec := { name := "fnExactTutteEdges", fn := fun _ => fun
  | [d] => { results := [.lit (.bool false)], args := [d] }
  | _ => none }
def FnExactTutteEdgesWrongFalsely : Prop := fnExactTutteEdgesRow.holds Tryd.pinned (OpenSpec.ofChange fnExactTutteEdgesWrong)

/-- 'laws.FnExactTutteActive': WHATEVER THE INPUT: true; the input reads as it did. -/
def fnExactTutteActiveSpec : ChangeSpec := { name := "fnExactTutteActive", fn := fun _ => fun
  | [d1, d2] => { results := [.lit (.bool true)], args := [d1, d2] }
  | _ => none }
def fnExactTutteActiveRow : OpenClaim := { program := "ytdhpamemkkfhhaadoor", sum := "3608c856f95a2e487172ef642038b44e763208a6b845152068578a7a337e6a41", func := "loop.example/graphpieces/laws.FnExactTutteActive", spec := "fnExactTutteActive", unfollowed := true, recurses := true, named := ["math/bits.deBruijn32tab", "math/bits.deBruijn64tab"], apart := false, laid := [("math/bits.deBruijn32tab", laid_math_bits_deBruijn32tab), ("math/bits.deBruijn64tab", laid_math_bits_deBruijn64tab)] }
def FnExactTutteActiveSaid : Prop := fnExactTutteActiveRow.holds Tryd.pinned (OpenSpec.ofChange fnExactTutteActiveSpec)

/-- ITS FALSE NEIGHBOUR: 'it returns false'. Refute it at one input. -/
def fnExactTutteActiveWrong : ChangeSpec := { name := "fnExactTutteActive", fn := fun _ => fun
  | [d1, d2] => { results := [.lit (.bool false)], args := [d1, d2] }
  | _ => none }
def FnExactTutteActiveWrongFalsely : Prop := fnExactTutteActiveRow.holds Tryd.pinned (OpenSpec.ofChange fnExactTutteActiveWrong)

/-- 'laws.FnExactTutteTrees': WHATEVER THE INPUT: true; the input reads as it did. -/
def fnExactTutteTreesSpec : ChangeSpec := { name := "fnExactTutteTrees", fn := fun _ => fun
  | [d] => { results := [.lit (.bool true)], args := [d] }
  | _ => none }
def fnExactTutteTreesRow : OpenClaim := { program := "ytdhpamemkkfhhaadoor", sum := "3608c856f95a2e487172ef642038b44e763208a6b845152068578a7a337e6a41", func := "loop.example/graphpieces/laws.FnExactTutteTrees", spec := "fnExactTutteTrees", unfollowed := true, recurses := true, named := ["math/bits.deBruijn32tab", "math/bits.deBruijn64tab"], apart := false, laid := [("math/bits.deBruijn32tab", laid_math_bits_deBruijn32tab), ("math/bits.deBruijn64tab", laid_math_bits_deBruijn64tab)] }
def FnExactTutteTreesSaid : Prop := fnExactTutteTreesRow.holds Tryd.pinned (OpenSpec.ofChange fnExactTutteTreesSpec)

/-- ITS FALSE NEIGHBOUR: 'it returns false'. Refute it at one input. -/
def fnExactTutteTreesWrong : ChangeSpec := { name := "fnExactTutteTrees", fn := fun _ => fun
  | [d] => { results := [.lit (.bool false)], args := [d] }
  | _ => none }
def FnExactTutteTreesWrongFalsely : Prop := fnExactTutteTreesRow.holds Tryd.pinned (OpenSpec.ofChange fnExactTutteTreesWrong)

/-- 'laws.FnExactTutteAt': WHATEVER THE INPUT: true; the input reads as it did. -/
def fnExactTutteAtSpec : ChangeSpec := { name := "fnExactTutteAt", fn := fun _ => fun
  | [d1, d2, d3] => { results := [.lit (.bool true)], args := [d1, d2, d3] }
  | _ => none }
def fnExactTutteAtRow : OpenClaim := { program := "ytdhpamemkkfhhaadoor", sum := "3608c856f95a2e487172ef642038b44e763208a6b845152068578a7a337e6a41", func := "loop.example/graphpieces/laws.FnExactTutteAt", spec := "fnExactTutteAt", unfollowed := true, recurses := true, named := ["math/bits.deBruijn32tab", "math/bits.deBruijn64tab"], apart := false, laid := [("math/bits.deBruijn32tab", laid_math_bits_deBruijn32tab), ("math/bits.deBruijn64tab", laid_math_bits_deBruijn64tab)] }
def FnExactTutteAtSaid : Prop := fnExactTutteAtRow.holds Tryd.pinned (OpenSpec.ofChange fnExactTutteAtSpec)

/-- ITS FALSE NEIGHBOUR: 'it returns false'. Refute it at one input. -/
def fnExactTutteAtWrong : ChangeSpec := { name := "fnExactTutteAt", fn := fun _ => fun
  | [d1, d2, d3] => { results := [.lit (.bool false)], args := [d1, d2, d3] }
  | _ => none }
def FnExactTutteAtWrongFalsely : Prop := fnExactTutteAtRow.holds Tryd.pinned (OpenSpec.ofChange fnExactTutteAtWrong)

/-- 'laws.FnExactTutteColours': WHATEVER THE INPUT: true; the input reads as it did. -/
def fnExactTutteColoursSpec : ChangeSpec := { name := "fnExactTutteColours", fn := fun _ => fun
  | [d1, d2] => { results := [.lit (.bool true)], args := [d1, d2] }
  | _ => none }
def fnExactTutteColoursRow : OpenClaim := { program := "ytdhpamemkkfhhaadoor", sum := "3608c856f95a2e487172ef642038b44e763208a6b845152068578a7a337e6a41", func := "loop.example/graphpieces/laws.FnExactTutteColours", spec := "fnExactTutteColours", unfollowed := true, recurses := true, named := ["math/bits.deBruijn32tab", "math/bits.deBruijn64tab"], apart := false, laid := [("math/bits.deBruijn32tab", laid_math_bits_deBruijn32tab), ("math/bits.deBruijn64tab", laid_math_bits_deBruijn64tab)] }
def FnExactTutteColoursSaid : Prop := fnExactTutteColoursRow.holds Tryd.pinned (OpenSpec.ofChange fnExactTutteColoursSpec)

/-- ITS FALSE NEIGHBOUR: 'it returns false'. Refute it at one input. -/
def fnExactTutteColoursWrong : ChangeSpec := { name := "fnExactTutteColours", fn := fun _ => fun
  | [d1, d2] => { results := [.lit (.bool false)], args := [d1, d2] }
  | _ => none }
def FnExactTutteColoursWrongFalsely : Prop := fnExactTutteColoursRow.holds Tryd.pinned (OpenSpec.ofChange fnExactTutteColoursWrong)

/-- 'laws.FnExactTutteFlows': WHATEVER THE INPUT: true; the input reads as it did. -/
def fnExactTutteFlowsSpec : ChangeSpec := { name := "fnExactTutteFlows", fn := fun _ => fun
  | [d1, d2] => { results := [.lit (.bool true)], args := [d1, d2] }
  | _ => none }
def fnExactTutteFlowsRow : OpenClaim := { program := "ytdhpamemkkfhhaadoor", sum := "3608c856f95a2e487172ef642038b44e763208a6b845152068578a7a337e6a41", func := "loop.example/graphpieces/laws.FnExactTutteFlows", spec := "fnExactTutteFlows", unfollowed := true, recurses := true, named := ["math/bits.deBruijn32tab", "math/bits.deBruijn64tab"], apart := false, laid := [("math/bits.deBruijn32tab", laid_math_bits_deBruijn32tab), ("math/bits.deBruijn64tab", laid_math_bits_deBruijn64tab)] }
def FnExactTutteFlowsSaid : Prop := fnExactTutteFlowsRow.holds Tryd.pinned (OpenSpec.ofChange fnExactTutteFlowsSpec)

/-- ITS FALSE NEIGHBOUR: 'it returns false'. Refute it at one input. -/
def fnExactTutteFlowsWrong : ChangeSpec := { name := "fnExactTutteFlows", fn := fun _ => fun
  | [d1, d2] => { results := [.lit (.bool false)], args := [d1, d2] }
  | _ => none }
def FnExactTutteFlowsWrongFalsely : Prop := fnExactTutteFlowsRow.holds Tryd.pinned (OpenSpec.ofChange fnExactTutteFlowsWrong)

/- THE SECOND FORM. 'bulk': how many values and letters a reading holds, each counted each time it is reached (what is shared counts as often as it is met; a slice's spare places count too). A statement '..UptoSaid' is the law's where the arguments, and the package variables that the reading takes, are together of bulk at most 1048576: NARROWER than '..Said'. Prove '..Said' where nothing that the law and all that it calls make is longer than what came in: it says more and counts as full. Else prove '..UptoSaid'. A law counts once. -/
mutual
def uptoBulk {H : Type} : DataW H → Nat
  | .lit (.string bytes) => bytes.length + 1
  | .lit _ => 1
  | .nil => 1
  | .ptr d => uptoBulk d + 1
  | .slice elems spare => uptoBulkAll elems + uptoBulkAll spare + 1
  | .agg parts => uptoBulkAll parts + 1
  | .iface _ d => uptoBulk d + 1
  | .map entries => uptoBulkEntries entries + 1
  | .held _ => 1
def uptoBulkAll {H : Type} : List (DataW H) → Nat
  | [] => 0
  | d :: r => uptoBulk d + uptoBulkAll r
def uptoBulkEntries {H : Type} : List (Lit × DataW H) → Nat
  | [] => 0
  | x :: r => uptoBulkEntry x + uptoBulkEntries r
def uptoBulkEntry {H : Type} : Lit × DataW H → Nat
  | (.string bytes, d) => bytes.length + uptoBulk d + 1
  | (_, d) => uptoBulk d + 1
 end
def uptoSmall : (H : Type) → List (DataW H) → Bool := fun _ ds => decide (uptoBulkAll ds ≤ 1048576)
def OpenSpec.upto (s : _root_.Go.ChangeSpec) : _root_.Go.OpenSpec := { _root_.Go.OpenSpec.ofChange s with cond := some uptoSmall }

/-- 'laws.FnExactTutteRank', WHERE WHAT IT READS IS OF BULK AT MOST 1048576: true; the input reads as it did. -/
def fnExactTutteRankUptoRow : OpenClaim := { program := "ytdhpamemkkfhhaadoor", sum := "3608c856f95a2e487172ef642038b44e763208a6b845152068578a7a337e6a41", func := "loop.example/graphpieces/laws.FnExactTutteRank", spec := "fnExactTutteRank", unfollowed := true, recurses := true, named := ["math/bits.deBruijn32tab", "math/bits.deBruijn64tab"], apart := false, laid := [("math/bits.deBruijn32tab", laid_math_bits_deBruijn32tab), ("math/bits.deBruijn64tab", laid_math_bits_deBruijn64tab)], narrowed := true }
def FnExactTutteRankUptoSaid : Prop := fnExactTutteRankUptoRow.holds Tryd.pinned (OpenSpec.upto fnExactTutteRankSpec)

/-- 'laws.FnExactTutteSets', WHERE WHAT IT READS IS OF BULK AT MOST 1048576: true; the input reads as it did. -/
def fnExactTutteSetsUptoRow : OpenClaim := { program := "ytdhpamemkkfhhaadoor", sum := "3608c856f95a2e487172ef642038b44e763208a6b845152068578a7a337e6a41", func := "loop.example/graphpieces/laws.FnExactTutteSets", spec := "fnExactTutteSets", unfollowed := true, recurses := true, named := ["math/bits.deBruijn32tab", "math/bits.deBruijn64tab"], apart := false, laid := [("math/bits.deBruijn32tab", laid_math_bits_deBruijn32tab), ("math/bits.deBruijn64tab", laid_math_bits_deBruijn64tab)], narrowed := true }
def FnExactTutteSetsUptoSaid : Prop := fnExactTutteSetsUptoRow.holds Tryd.pinned (OpenSpec.upto fnExactTutteSetsSpec)

/-- 'laws.FnExactTutteEdges', WHERE WHAT IT READS IS OF BULK AT MOST 1048576: true; the input reads as it did. -/
def fnExactTutteEdgesUptoRow : OpenClaim := { program := "ytdhpamemkkfhhaadoor", sum := "3608c856f95a2e487172ef642038b44e763208a6b845152068578a7a337e6a41", func := "loop.example/graphpieces/laws.FnExactTutteEdges", spec := "fnExactTutteEdges", unfollowed := true, recurses := true, named := ["math/bits.deBruijn32tab", "math/bits.deBruijn64tab"], apart := false, laid := [("math/bits.deBruijn32tab", laid_math_bits_deBruijn32tab), ("math/bits.deBruijn64tab", laid_math_bits_deBruijn64tab)], narrowed := true }
def FnExactTutteEdgesUptoSaid : Prop := fnExactTutteEdgesUptoRow.holds Tryd.pinned (OpenSpec.upto fnExactTutteEdgesSpec)

/-- 'laws.FnExactTutteActive', WHERE WHAT IT READS IS OF BULK AT MOST 1048576: true; the input reads as it did. -/
def fnExactTutteActiveUptoRow : OpenClaim := { program := "ytdhpamemkkfhhaadoor", sum := "3608c856f95a2e487172ef642038b44e763208a6b845152068578a7a337e6a41", func := "loop.example/graphpieces/laws.FnExactTutteActive", spec := "fnExactTutteActive", unfollowed := true, recurses := true, named := ["math/bits.deBruijn32tab", "math/bits.deBruijn64tab"], apart := false, laid := [("math/bits.deBruijn32tab", laid_math_bits_deBruijn32tab), ("math/bits.deBruijn64tab", laid_math_bits_deBruijn64tab)], narrowed := true }
def FnExactTutteActiveUptoSaid : Prop := fnExactTutteActiveUptoRow.holds Tryd.pinned (OpenSpec.upto fnExactTutteActiveSpec)

/-- 'laws.FnExactTutteTrees', WHERE WHAT IT READS IS OF BULK AT MOST 1048576: true; the input reads as it did. -/
def fnExactTutteTreesUptoRow : OpenClaim := { program := "ytdhpamemkkfhhaadoor", sum := "3608c856f95a2e487172ef642038b44e763208a6b845152068578a7a337e6a41", func := "loop.example/graphpieces/laws.FnExactTutteTrees", spec := "fnExactTutteTrees", unfollowed := true, recurses := true, named := ["math/bits.deBruijn32tab", "math/bits.deBruijn64tab"], apart := false, laid := [("math/bits.deBruijn32tab", laid_math_bits_deBruijn32tab), ("math/bits.deBruijn64tab", laid_math_bits_deBruijn64tab)], narrowed := true }
def FnExactTutteTreesUptoSaid : Prop := fnExactTutteTreesUptoRow.holds Tryd.pinned (OpenSpec.upto fnExactTutteTreesSpec)

/-- 'laws.FnExactTutteAt', WHERE WHAT IT READS IS OF BULK AT MOST 1048576: true; the input reads as it did. -/
def fnExactTutteAtUptoRow : OpenClaim := { program := "ytdhpamemkkfhhaadoor", sum := "3608c856f95a2e487172ef642038b44e763208a6b845152068578a7a337e6a41", func := "loop.example/graphpieces/laws.FnExactTutteAt", spec := "fnExactTutteAt", unfollowed := true, recurses := true, named := ["math/bits.deBruijn32tab", "math/bits.deBruijn64tab"], apart := false, laid := [("math/bits.deBruijn32tab", laid_math_bits_deBruijn32tab), ("math/bits.deBruijn64tab", laid_math_bits_deBruijn64tab)], narrowed := true }
def FnExactTutteAtUptoSaid : Prop := fnExactTutteAtUptoRow.holds Tryd.pinned (OpenSpec.upto fnExactTutteAtSpec)

/-- 'laws.FnExactTutteColours', WHERE WHAT IT READS IS OF BULK AT MOST 1048576: true; the input reads as it did. -/
def fnExactTutteColoursUptoRow : OpenClaim := { program := "ytdhpamemkkfhhaadoor", sum := "3608c856f95a2e487172ef642038b44e763208a6b845152068578a7a337e6a41", func := "loop.example/graphpieces/laws.FnExactTutteColours", spec := "fnExactTutteColours", unfollowed := true, recurses := true, named := ["math/bits.deBruijn32tab", "math/bits.deBruijn64tab"], apart := false, laid := [("math/bits.deBruijn32tab", laid_math_bits_deBruijn32tab), ("math/bits.deBruijn64tab", laid_math_bits_deBruijn64tab)], narrowed := true }
def FnExactTutteColoursUptoSaid : Prop := fnExactTutteColoursUptoRow.holds Tryd.pinned (OpenSpec.upto fnExactTutteColoursSpec)

/-- 'laws.FnExactTutteFlows', WHERE WHAT IT READS IS OF BULK AT MOST 1048576: true; the input reads as it did. -/
def fnExactTutteFlowsUptoRow : OpenClaim := { program := "ytdhpamemkkfhhaadoor", sum := "3608c856f95a2e487172ef642038b44e763208a6b845152068578a7a337e6a41", func := "loop.example/graphpieces/laws.FnExactTutteFlows", spec := "fnExactTutteFlows", unfollowed := true, recurses := true, named := ["math/bits.deBruijn32tab", "math/bits.deBruijn64tab"], apart := false, laid := [("math/bits.deBruijn32tab", laid_math_bits_deBruijn32tab), ("math/bits.deBruijn64tab", laid_math_bits_deBruijn64tab)], narrowed := true }
def FnExactTutteFlowsUptoSaid : Prop := fnExactTutteFlowsUptoRow.holds Tryd.pinned (OpenSpec.upto fnExactTutteFlowsSpec)

end Rows
end Go.Proofs.YtdhpamemkkfhhaaDoor
