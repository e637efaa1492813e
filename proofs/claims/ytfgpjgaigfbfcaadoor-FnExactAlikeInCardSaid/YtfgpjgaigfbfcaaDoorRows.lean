/-
  NARROWER THAN 'FOR EVERY INPUT', by the rows' own cells (each row's printed sentence says how): FnExactGraphIn: laid · FnExactGraphCode: laid · FnExactGraphEdges: laid · FnExactGraphDegrees: laid · FnExactGraphOther: laid · FnExactGraphNamed: laid · FnExactGraphDrop: laid · FnExactGraphPart: laid · FnExactGraphJoin: laid · FnExactGraphLinked: laid · FnExactAlikeIn: laid.
  DERIVED. THE GIVEN ROWS OF THIS SEAT. 11 by the template 'for every input the law returns true; each argument reads behind the call as it read before'; 0 by the template 'total and deterministic' (their statements: YtfgpjgaigfbfcaaDoorTotals.lean).
  GIVEN WITH THE SEED: the statements are not yours to turn. If you find one false, say at which input.
  Laid BY PROGRAM, IN A SANDBOX (cutbox-rows.mjs): the forced cells as the released guide's own fill.sh prints them over the translation e80423128a2ee394… (all of the seat's roots in one cut). By AI agents, Wed Nov 11 2026. No macro, syntax, notation, axiom, sorry.
-/
import Derived.Test.YtfgpjgaigfbfcaaDoorChecked
import GoSem.Claim
import GoSem.ClaimJoined
import GoSem.ClaimMapViews
import Derived.JoinedTies
import Derived.KernelRfl
namespace Go.Proofs.YtfgpjgaigfbfcaaDoor
/- THE CELL 'sum', in the pinned program and in every row, IS THE sha256 OF THE DUMP (.gsa) THAT YtfgpjgaigfbfcaaDoorProg.lean LOADS. Nothing in Lean hashes anything: it is a label: what it is worth is what the hold of that sum in a sandbox is worth. -/
noncomputable def Tryd.pinned : Pinned := { name := "ytfgpjgaigfbfcaadoor", sum := "e80423128a2ee394fe25e16417408829fe697765aa2c1dfab81d510af8748a10", checked := Tryd.checked }
namespace Rows
def none {H : Type} : Left H := { results := [], args := [] }

/- WHAT THE LISTED PACKAGE-LEVEL VARIABLES READ AS WHEN THE CALL BEGINS. Each datum BY PROGRAM (the guide's laid-datum.mjs) off the statement by which the dump's own 'gosem.cut.vars' lays the variable. In a bare row this is a premise. The card (YtfgpjgaigfbfcaaDoorCards.lean) ties it to the program's text. -/
def laid_math_bits_deBruijn32tab {H : Type} : DataW H := .agg [.lit (.int .u8 0), .lit (.int .u8 1), .lit (.int .u8 28), .lit (.int .u8 2), .lit (.int .u8 29), .lit (.int .u8 14), .lit (.int .u8 24), .lit (.int .u8 3), .lit (.int .u8 30), .lit (.int .u8 22), .lit (.int .u8 20), .lit (.int .u8 15), .lit (.int .u8 25), .lit (.int .u8 17), .lit (.int .u8 4), .lit (.int .u8 8), .lit (.int .u8 31), .lit (.int .u8 27), .lit (.int .u8 13), .lit (.int .u8 23), .lit (.int .u8 21), .lit (.int .u8 19), .lit (.int .u8 16), .lit (.int .u8 7), .lit (.int .u8 26), .lit (.int .u8 12), .lit (.int .u8 18), .lit (.int .u8 6), .lit (.int .u8 11), .lit (.int .u8 5), .lit (.int .u8 10), .lit (.int .u8 9)]
def laid_math_bits_deBruijn64tab {H : Type} : DataW H := .agg [.lit (.int .u8 0), .lit (.int .u8 1), .lit (.int .u8 56), .lit (.int .u8 2), .lit (.int .u8 57), .lit (.int .u8 49), .lit (.int .u8 28), .lit (.int .u8 3), .lit (.int .u8 61), .lit (.int .u8 58), .lit (.int .u8 42), .lit (.int .u8 50), .lit (.int .u8 38), .lit (.int .u8 29), .lit (.int .u8 17), .lit (.int .u8 4), .lit (.int .u8 62), .lit (.int .u8 47), .lit (.int .u8 59), .lit (.int .u8 36), .lit (.int .u8 45), .lit (.int .u8 43), .lit (.int .u8 51), .lit (.int .u8 22), .lit (.int .u8 53), .lit (.int .u8 39), .lit (.int .u8 33), .lit (.int .u8 30), .lit (.int .u8 24), .lit (.int .u8 18), .lit (.int .u8 12), .lit (.int .u8 5), .lit (.int .u8 63), .lit (.int .u8 55), .lit (.int .u8 48), .lit (.int .u8 27), .lit (.int .u8 60), .lit (.int .u8 41), .lit (.int .u8 37), .lit (.int .u8 16), .lit (.int .u8 46), .lit (.int .u8 35), .lit (.int .u8 44), .lit (.int .u8 21), .lit (.int .u8 52), .lit (.int .u8 32), .lit (.int .u8 23), .lit (.int .u8 11), .lit (.int .u8 54), .lit (.int .u8 26), .lit (.int .u8 40), .lit (.int .u8 15), .lit (.int .u8 34), .lit (.int .u8 20), .lit (.int .u8 31), .lit (.int .u8 10), .lit (.int .u8 25), .lit (.int .u8 14), .lit (.int .u8 19), .lit (.int .u8 9), .lit (.int .u8 13), .lit (.int .u8 8), .lit (.int .u8 7), .lit (.int .u8 6)]

/-- 'laws.FnExactGraphIn': WHATEVER THE INPUT: true; the input reads as it did. -/
def fnExactGraphInSpec : ChangeSpec := { name := "fnExactGraphIn", fn := fun _ => fun
  | [d] => { results := [.lit (.bool true)], args := [d] }
  | _ => none }
def fnExactGraphInRow : OpenClaim := { program := "ytfgpjgaigfbfcaadoor", sum := "e80423128a2ee394fe25e16417408829fe697765aa2c1dfab81d510af8748a10", func := "loop.example/graphpieces/laws.FnExactGraphIn", spec := "fnExactGraphIn", unfollowed := true, recurses := true, named := ["math/bits.deBruijn32tab", "math/bits.deBruijn64tab"], apart := false, laid := [("math/bits.deBruijn32tab", laid_math_bits_deBruijn32tab), ("math/bits.deBruijn64tab", laid_math_bits_deBruijn64tab)] }
def FnExactGraphInSaid : Prop := fnExactGraphInRow.holds Tryd.pinned (OpenSpec.ofChange fnExactGraphInSpec)

/-- ITS FALSE NEIGHBOUR: 'it returns false'. Refute it at one input. -/
def fnExactGraphInWrong : ChangeSpec := { name := "fnExactGraphIn", fn := fun _ => fun
  | [d] => { results := [.lit (.bool false)], args := [d] }
  | _ => none }
def FnExactGraphInWrongFalsely : Prop := fnExactGraphInRow.holds Tryd.pinned (OpenSpec.ofChange fnExactGraphInWrong)

/-- 'laws.FnExactGraphCode': WHATEVER THE INPUT: true; the input reads as it did. -/
def fnExactGraphCodeSpec : ChangeSpec := { name := "fnExactGraphCode", fn := fun _ => fun
  | [d] => { results := [.lit (.bool true)], args := [d] }
  | _ => none }
def fnExactGraphCodeRow : OpenClaim := { program := "ytfgpjgaigfbfcaadoor", sum := "e80423128a2ee394fe25e16417408829fe697765aa2c1dfab81d510af8748a10", func := "loop.example/graphpieces/laws.FnExactGraphCode", spec := "fnExactGraphCode", unfollowed := true, recurses := true, named := ["math/bits.deBruijn32tab", "math/bits.deBruijn64tab"], apart := false, laid := [("math/bits.deBruijn32tab", laid_math_bits_deBruijn32tab), ("math/bits.deBruijn64tab", laid_math_bits_deBruijn64tab)] }
def FnExactGraphCodeSaid : Prop := fnExactGraphCodeRow.holds Tryd.pinned (OpenSpec.ofChange fnExactGraphCodeSpec)

/-- ITS FALSE NEIGHBOUR: 'it returns false'. Refute it at one input. -/
def fnExactGraphCodeWrong : ChangeSpec := { name := "fnExactGraphCode", fn := fun _ => fun
  | [d] => { results := [.lit (.bool false)], args := [d] }
  | _ => none }
def FnExactGraphCodeWrongFalsely : Prop := fnExactGraphCodeRow.holds Tryd.pinned (OpenSpec.ofChange fnExactGraphCodeWrong)

/-- 'laws.FnExactGraphEdges': WHATEVER THE INPUT: true; the input reads as it did. -/
def fnExactGraphEdgesSpec : ChangeSpec := { name := "fnExactGraphEdges", fn := fun _ => fun
  | [d] => { results := [.lit (.bool true)], args := [d] }
  | _ => none }
def fnExactGraphEdgesRow : OpenClaim := { program := "ytfgpjgaigfbfcaadoor", sum := "e80423128a2ee394fe25e16417408829fe697765aa2c1dfab81d510af8748a10", func := "loop.example/graphpieces/laws.FnExactGraphEdges", spec := "fnExactGraphEdges", unfollowed := true, recurses := true, named := ["math/bits.deBruijn32tab", "math/bits.deBruijn64tab"], apart := false, laid := [("math/bits.deBruijn32tab", laid_math_bits_deBruijn32tab), ("math/bits.deBruijn64tab", laid_math_bits_deBruijn64tab)] }
def FnExactGraphEdgesSaid : Prop := fnExactGraphEdgesRow.holds Tryd.pinned (OpenSpec.ofChange fnExactGraphEdgesSpec)

/-- ITS FALSE NEIGHBOUR: 'it returns false'. Refute it at one input. -/
def fnExactGraphEdgesWrong : ChangeSpec := { name := "fnExactGraphEdges", fn := fun _ => fun
  | [d] => { results := [.lit (.bool false)], args := [d] }
  | _ => none }
def FnExactGraphEdgesWrongFalsely : Prop := fnExactGraphEdgesRow.holds Tryd.pinned (OpenSpec.ofChange fnExactGraphEdgesWrong)

/-- 'laws.FnExactGraphDegrees': WHATEVER THE INPUT: true; the input reads as it did. -/
def fnExactGraphDegreesSpec : ChangeSpec := { name := "fnExactGraphDegrees", fn := fun _ => fun
  | [d] => { results := [.lit (.bool true)], args := [d] }
  | _ => none }
def fnExactGraphDegreesRow : OpenClaim := { program := "ytfgpjgaigfbfcaadoor", sum := "e80423128a2ee394fe25e16417408829fe697765aa2c1dfab81d510af8748a10", func := "loop.example/graphpieces/laws.FnExactGraphDegrees", spec := "fnExactGraphDegrees", unfollowed := true, recurses := true, named := ["math/bits.deBruijn32tab", "math/bits.deBruijn64tab"], apart := false, laid := [("math/bits.deBruijn32tab", laid_math_bits_deBruijn32tab), ("math/bits.deBruijn64tab", laid_math_bits_deBruijn64tab)] }
def FnExactGraphDegreesSaid : Prop := fnExactGraphDegreesRow.holds Tryd.pinned (OpenSpec.ofChange fnExactGraphDegreesSpec)

/-- ITS FALSE NEIGHBOUR: 'it returns false'. Refute it at one input. -/
def fnExactGraphDegreesWrong : ChangeSpec := { name := "fnExactGraphDegrees", fn := fun _ => fun
  | [d] => { results := [.lit (.bool false)], args := [d] }
  | _ => none }
def FnExactGraphDegreesWrongFalsely : Prop := fnExactGraphDegreesRow.holds Tryd.pinned (OpenSpec.ofChange fnExactGraphDegreesWrong)

/-- 'laws.FnExactGraphOther': WHATEVER THE INPUT: true; the input reads as it did. -/
def fnExactGraphOtherSpec : ChangeSpec := { name := "fnExactGraphOther", fn := fun _ => fun
  | [d] => { results := [.lit (.bool true)], args := [d] }
  | _ => none }
def fnExactGraphOtherRow : OpenClaim := { program := "ytfgpjgaigfbfcaadoor", sum := "e80423128a2ee394fe25e16417408829fe697765aa2c1dfab81d510af8748a10", func := "loop.example/graphpieces/laws.FnExactGraphOther", spec := "fnExactGraphOther", unfollowed := true, recurses := true, named := ["math/bits.deBruijn32tab", "math/bits.deBruijn64tab"], apart := false, laid := [("math/bits.deBruijn32tab", laid_math_bits_deBruijn32tab), ("math/bits.deBruijn64tab", laid_math_bits_deBruijn64tab)] }
def FnExactGraphOtherSaid : Prop := fnExactGraphOtherRow.holds Tryd.pinned (OpenSpec.ofChange fnExactGraphOtherSpec)

/-- ITS FALSE NEIGHBOUR: 'it returns false'. Refute it at one input. -/
def fnExactGraphOtherWrong : ChangeSpec := { name := "fnExactGraphOther", fn := fun _ => fun
  | [d] => { results := [.lit (.bool false)], args := [d] }
  | _ => none }
def FnExactGraphOtherWrongFalsely : Prop := fnExactGraphOtherRow.holds Tryd.pinned (OpenSpec.ofChange fnExactGraphOtherWrong)

/-- 'laws.FnExactGraphNamed': WHATEVER THE INPUT: true; the input reads as it did. -/
def fnExactGraphNamedSpec : ChangeSpec := { name := "fnExactGraphNamed", fn := fun _ => fun
  | [d1, d2] => { results := [.lit (.bool true)], args := [d1, d2] }
  | _ => none }
def fnExactGraphNamedRow : OpenClaim := { program := "ytfgpjgaigfbfcaadoor", sum := "e80423128a2ee394fe25e16417408829fe697765aa2c1dfab81d510af8748a10", func := "loop.example/graphpieces/laws.FnExactGraphNamed", spec := "fnExactGraphNamed", unfollowed := true, recurses := true, named := ["math/bits.deBruijn32tab", "math/bits.deBruijn64tab"], apart := false, laid := [("math/bits.deBruijn32tab", laid_math_bits_deBruijn32tab), ("math/bits.deBruijn64tab", laid_math_bits_deBruijn64tab)] }
def FnExactGraphNamedSaid : Prop := fnExactGraphNamedRow.holds Tryd.pinned (OpenSpec.ofChange fnExactGraphNamedSpec)

/-- ITS FALSE NEIGHBOUR: 'it returns false'. Refute it at one input. -/
def fnExactGraphNamedWrong : ChangeSpec := { name := "fnExactGraphNamed", fn := fun _ => fun
  | [d1, d2] => { results := [.lit (.bool false)], args := [d1, d2] }
  | _ => none }
def FnExactGraphNamedWrongFalsely : Prop := fnExactGraphNamedRow.holds Tryd.pinned (OpenSpec.ofChange fnExactGraphNamedWrong)

/-- 'laws.FnExactGraphDrop': WHATEVER THE INPUT: true; the input reads as it did. -/
def fnExactGraphDropSpec : ChangeSpec := { name := "fnExactGraphDrop", fn := fun _ => fun
  | [d1, d2] => { results := [.lit (.bool true)], args := [d1, d2] }
  | _ => none }
def fnExactGraphDropRow : OpenClaim := { program := "ytfgpjgaigfbfcaadoor", sum := "e80423128a2ee394fe25e16417408829fe697765aa2c1dfab81d510af8748a10", func := "loop.example/graphpieces/laws.FnExactGraphDrop", spec := "fnExactGraphDrop", unfollowed := true, recurses := true, named := ["math/bits.deBruijn32tab", "math/bits.deBruijn64tab"], apart := false, laid := [("math/bits.deBruijn32tab", laid_math_bits_deBruijn32tab), ("math/bits.deBruijn64tab", laid_math_bits_deBruijn64tab)] }
def FnExactGraphDropSaid : Prop := fnExactGraphDropRow.holds Tryd.pinned (OpenSpec.ofChange fnExactGraphDropSpec)

/-- ITS FALSE NEIGHBOUR: 'it returns false'. Refute it at one input. -/
def fnExactGraphDropWrong : ChangeSpec := { name := "fnExactGraphDrop", fn := fun _ => fun
  | [d1, d2] => { results := [.lit (.bool false)], args := [d1, d2] }
  | _ => none }
def FnExactGraphDropWrongFalsely : Prop := fnExactGraphDropRow.holds Tryd.pinned (OpenSpec.ofChange fnExactGraphDropWrong)

/-- 'laws.FnExactGraphPart': WHATEVER THE INPUT: true; the input reads as it did. -/
def fnExactGraphPartSpec : ChangeSpec := { name := "fnExactGraphPart", fn := fun _ => fun
  | [d1, d2] => { results := [.lit (.bool true)], args := [d1, d2] }
  | _ => none }
def fnExactGraphPartRow : OpenClaim := { program := "ytfgpjgaigfbfcaadoor", sum := "e80423128a2ee394fe25e16417408829fe697765aa2c1dfab81d510af8748a10", func := "loop.example/graphpieces/laws.FnExactGraphPart", spec := "fnExactGraphPart", unfollowed := true, recurses := true, named := ["math/bits.deBruijn32tab", "math/bits.deBruijn64tab"], apart := false, laid := [("math/bits.deBruijn32tab", laid_math_bits_deBruijn32tab), ("math/bits.deBruijn64tab", laid_math_bits_deBruijn64tab)] }
def FnExactGraphPartSaid : Prop := fnExactGraphPartRow.holds Tryd.pinned (OpenSpec.ofChange fnExactGraphPartSpec)

/-- ITS FALSE NEIGHBOUR: 'it returns false'. Refute it at one input. -/
def fnExactGraphPartWrong : ChangeSpec := { name := "fnExactGraphPart", fn := fun _ => fun
  | [d1, d2] => { results := [.lit (.bool false)], args := [d1, d2] }
  | _ => none }
def FnExactGraphPartWrongFalsely : Prop := fnExactGraphPartRow.holds Tryd.pinned (OpenSpec.ofChange fnExactGraphPartWrong)

/-- 'laws.FnExactGraphJoin': WHATEVER THE INPUT: true; the input reads as it did. -/
def fnExactGraphJoinSpec : ChangeSpec := { name := "fnExactGraphJoin", fn := fun _ => fun
  | [d1, d2] => { results := [.lit (.bool true)], args := [d1, d2] }
  | _ => none }
def fnExactGraphJoinRow : OpenClaim := { program := "ytfgpjgaigfbfcaadoor", sum := "e80423128a2ee394fe25e16417408829fe697765aa2c1dfab81d510af8748a10", func := "loop.example/graphpieces/laws.FnExactGraphJoin", spec := "fnExactGraphJoin", unfollowed := true, recurses := true, named := ["math/bits.deBruijn32tab", "math/bits.deBruijn64tab"], apart := false, laid := [("math/bits.deBruijn32tab", laid_math_bits_deBruijn32tab), ("math/bits.deBruijn64tab", laid_math_bits_deBruijn64tab)] }
def FnExactGraphJoinSaid : Prop := fnExactGraphJoinRow.holds Tryd.pinned (OpenSpec.ofChange fnExactGraphJoinSpec)

/-- ITS FALSE NEIGHBOUR: 'it returns false'. Refute it at one input. -/
def fnExactGraphJoinWrong : ChangeSpec := { name := "fnExactGraphJoin", fn := fun _ => fun
  | [d1, d2] => { results := [.lit (.bool false)], args := [d1, d2] }
  | _ => none }
def FnExactGraphJoinWrongFalsely : Prop := fnExactGraphJoinRow.holds Tryd.pinned (OpenSpec.ofChange fnExactGraphJoinWrong)

/-- 'laws.FnExactGraphLinked': WHATEVER THE INPUT: true; the input reads as it did. -/
def fnExactGraphLinkedSpec : ChangeSpec := { name := "fnExactGraphLinked", fn := fun _ => fun
  | [d] => { results := [.lit (.bool true)], args := [d] }
  | _ => none }
def fnExactGraphLinkedRow : OpenClaim := { program := "ytfgpjgaigfbfcaadoor", sum := "e80423128a2ee394fe25e16417408829fe697765aa2c1dfab81d510af8748a10", func := "loop.example/graphpieces/laws.FnExactGraphLinked", spec := "fnExactGraphLinked", unfollowed := true, recurses := true, named := ["math/bits.deBruijn32tab", "math/bits.deBruijn64tab"], apart := false, laid := [("math/bits.deBruijn32tab", laid_math_bits_deBruijn32tab), ("math/bits.deBruijn64tab", laid_math_bits_deBruijn64tab)] }
def FnExactGraphLinkedSaid : Prop := fnExactGraphLinkedRow.holds Tryd.pinned (OpenSpec.ofChange fnExactGraphLinkedSpec)

/-- ITS FALSE NEIGHBOUR: 'it returns false'. Refute it at one input. -/
def fnExactGraphLinkedWrong : ChangeSpec := { name := "fnExactGraphLinked", fn := fun _ => fun
  | [d] => { results := [.lit (.bool false)], args := [d] }
  | _ => none }
def FnExactGraphLinkedWrongFalsely : Prop := fnExactGraphLinkedRow.holds Tryd.pinned (OpenSpec.ofChange fnExactGraphLinkedWrong)

/-- 'laws.FnExactAlikeIn': WHATEVER THE INPUT: true; the input reads as it did. -/
def fnExactAlikeInSpec : ChangeSpec := { name := "fnExactAlikeIn", fn := fun _ => fun
  | [d1, d2] => { results := [.lit (.bool true)], args := [d1, d2] }
  | _ => none }
def fnExactAlikeInRow : OpenClaim := { program := "ytfgpjgaigfbfcaadoor", sum := "e80423128a2ee394fe25e16417408829fe697765aa2c1dfab81d510af8748a10", func := "loop.example/graphpieces/laws.FnExactAlikeIn", spec := "fnExactAlikeIn", unfollowed := true, recurses := true, named := ["math/bits.deBruijn32tab", "math/bits.deBruijn64tab"], apart := false, laid := [("math/bits.deBruijn32tab", laid_math_bits_deBruijn32tab), ("math/bits.deBruijn64tab", laid_math_bits_deBruijn64tab)] }
def FnExactAlikeInSaid : Prop := fnExactAlikeInRow.holds Tryd.pinned (OpenSpec.ofChange fnExactAlikeInSpec)

/-- ITS FALSE NEIGHBOUR: 'it returns false'. Refute it at one input. -/
def fnExactAlikeInWrong : ChangeSpec := { name := "fnExactAlikeIn", fn := fun _ => fun
  | [d1, d2] => { results := [.lit (.bool false)], args := [d1, d2] }
  | _ => none }
def FnExactAlikeInWrongFalsely : Prop := fnExactAlikeInRow.holds Tryd.pinned (OpenSpec.ofChange fnExactAlikeInWrong)

/- THE SECOND FORM. 'bulk': how many values and letters a reading holds, each counted each time it is reached (what is shared counts as often as it is met; a slice's spare places count too). A statement '..UptoSaid' is the law's where the arguments, and the package variables that the reading takes, are together of bulk at most 1048576: NARROWER than '..Said'. Prove '..Said' where nothing that the law and all that it calls make is longer than what came in: it says more and counts as full. Else prove '..UptoSaid'. A law counts once. -/
mutual
def uptoBulk {H : Type} : DataW H → Nat
  | .lit (.string bytes) => bytes.length + 1
  | .lit _ => 1
  | .nil => 1
  | .ptr d => uptoBulk d + 1
  | .slice elems spare => uptoBulkAll elems + uptoBulkAll spare + 1
  | .agg parts => uptoBulkAll parts + 1
  | .iface _ d => uptoBulk d + 1
  | .map entries => uptoBulkEntries entries + 1
  | .held _ => 1
def uptoBulkAll {H : Type} : List (DataW H) → Nat
  | [] => 0
  | d :: r => uptoBulk d + uptoBulkAll r
def uptoBulkEntries {H : Type} : List (Lit × DataW H) → Nat
  | [] => 0
  | x :: r => uptoBulkEntry x + uptoBulkEntries r
def uptoBulkEntry {H : Type} : Lit × DataW H → Nat
  | (.string bytes, d) => bytes.length + uptoBulk d + 1
  | (_, d) => uptoBulk d + 1
 end
def uptoSmall : (H : Type) → List (DataW H) → Bool := fun _ ds => decide (uptoBulkAll ds ≤ 1048576)
def OpenSpec.upto (s : _root_.Go.ChangeSpec) : _root_.Go.OpenSpec := { _root_.Go.OpenSpec.ofChange s with cond := some uptoSmall }

/-- 'laws.FnExactGraphIn', WHERE WHAT IT READS IS OF BULK AT MOST 1048576: true; the input reads as it did. -/
def fnExactGraphInUptoRow : OpenClaim := { program := "ytfgpjgaigfbfcaadoor", sum := "e80423128a2ee394fe25e16417408829fe697765aa2c1dfab81d510af8748a10", func := "loop.example/graphpieces/laws.FnExactGraphIn", spec := "fnExactGraphIn", unfollowed := true, recurses := true, named := ["math/bits.deBruijn32tab", "math/bits.deBruijn64tab"], apart := false, laid := [("math/bits.deBruijn32tab", laid_math_bits_deBruijn32tab), ("math/bits.deBruijn64tab", laid_math_bits_deBruijn64tab)], narrowed := true }
def FnExactGraphInUptoSaid : Prop := fnExactGraphInUptoRow.holds Tryd.pinned (OpenSpec.upto fnExactGraphInSpec)

/-- 'laws.FnExactGraphCode', WHERE WHAT IT READS IS OF BULK AT MOST 1048576: true; the input reads as it did. -/
def fnExactGraphCodeUptoRow : OpenClaim := { program := "ytfgpjgaigfbfcaadoor", sum := "e80423128a2ee394fe25e16417408829fe697765aa2c1dfab81d510af8748a10", func := "loop.example/graphpieces/laws.FnExactGraphCode", spec := "fnExactGraphCode", unfollowed := true, recurses := true, named := ["math/bits.deBruijn32tab", "math/bits.deBruijn64tab"], apart := false, laid := [("math/bits.deBruijn32tab", laid_math_bits_deBruijn32tab), ("math/bits.deBruijn64tab", laid_math_bits_deBruijn64tab)], narrowed := true }
def FnExactGraphCodeUptoSaid : Prop := fnExactGraphCodeUptoRow.holds Tryd.pinned (OpenSpec.upto fnExactGraphCodeSpec)

/-- 'laws.FnExactGraphEdges', WHERE WHAT IT READS IS OF BULK AT MOST 1048576: true; the input reads as it did. -/
def fnExactGraphEdgesUptoRow : OpenClaim := { program := "ytfgpjgaigfbfcaadoor", sum := "e80423128a2ee394fe25e16417408829fe697765aa2c1dfab81d510af8748a10", func := "loop.example/graphpieces/laws.FnExactGraphEdges", spec := "fnExactGraphEdges", unfollowed := true, recurses := true, named := ["math/bits.deBruijn32tab", "math/bits.deBruijn64tab"], apart := false, laid := [("math/bits.deBruijn32tab", laid_math_bits_deBruijn32tab), ("math/bits.deBruijn64tab", laid_math_bits_deBruijn64tab)], narrowed := true }
def FnExactGraphEdgesUptoSaid : Prop := fnExactGraphEdgesUptoRow.holds Tryd.pinned (OpenSpec.upto fnExactGraphEdgesSpec)

/-- 'laws.FnExactGraphDegrees', WHERE WHAT IT READS IS OF BULK AT MOST 1048576: true; the input reads as it did. -/
def fnExactGraphDegreesUptoRow : OpenClaim := { program := "ytfgpjgaigfbfcaadoor", sum := "e80423128a2ee394fe25e16417408829fe697765aa2c1dfab81d510af8748a10", func := "loop.example/graphpieces/laws.FnExactGraphDegrees", spec := "fnExactGraphDegrees", unfollowed := true, recurses := true, named := ["math/bits.deBruijn32tab", "math/bits.deBruijn64tab"], apart := false, laid := [("math/bits.deBruijn32tab", laid_math_bits_deBruijn32tab), ("math/bits.deBruijn64tab", laid_math_bits_deBruijn64tab)], narrowed := true }
def FnExactGraphDegreesUptoSaid : Prop := fnExactGraphDegreesUptoRow.holds Tryd.pinned (OpenSpec.upto fnExactGraphDegreesSpec)

/-- 'laws.FnExactGraphOther', WHERE WHAT IT READS IS OF BULK AT MOST 1048576: true; the input reads as it did. -/
def fnExactGraphOtherUptoRow : OpenClaim := { program := "ytfgpjgaigfbfcaadoor", sum := "e80423128a2ee394fe25e16417408829fe697765aa2c1dfab81d510af8748a10", func := "loop.example/graphpieces/laws.FnExactGraphOther", spec := "fnExactGraphOther", unfollowed := true, recurses := true, named := ["math/bits.deBruijn32tab", "math/bits.deBruijn64tab"], apart := false, laid := [("math/bits.deBruijn32tab", laid_math_bits_deBruijn32tab), ("math/bits.deBruijn64tab", laid_math_bits_deBruijn64tab)], narrowed := true }
def FnExactGraphOtherUptoSaid : Prop := fnExactGraphOtherUptoRow.holds Tryd.pinned (OpenSpec.upto fnExactGraphOtherSpec)

/-- 'laws.FnExactGraphNamed', WHERE WHAT IT READS IS OF BULK AT MOST 1048576: true; the input reads as it did. -/
def fnExactGraphNamedUptoRow : OpenClaim := { program := "ytfgpjgaigfbfcaadoor", sum := "e80423128a2ee394fe25e16417408829fe697765aa2c1dfab81d510af8748a10", func := "loop.example/graphpieces/laws.FnExactGraphNamed", spec := "fnExactGraphNamed", unfollowed := true, recurses := true, named := ["math/bits.deBruijn32tab", "math/bits.deBruijn64tab"], apart := false, laid := [("math/bits.deBruijn32tab", laid_math_bits_deBruijn32tab), ("math/bits.deBruijn64tab", laid_math_bits_deBruijn64tab)], narrowed := true }
def FnExactGraphNamedUptoSaid : Prop := fnExactGraphNamedUptoRow.holds Tryd.pinned (OpenSpec.upto fnExactGraphNamedSpec)

/-- 'laws.FnExactGraphDrop', WHERE WHAT IT READS IS OF BULK AT MOST 1048576: true; the input reads as it did. -/
def fnExactGraphDropUptoRow : OpenClaim := { program := "ytfgpjgaigfbfcaadoor", sum := "e80423128a2ee394fe25e16417408829fe697765aa2c1dfab81d510af8748a10", func := "loop.example/graphpieces/laws.FnExactGraphDrop", spec := "fnExactGraphDrop", unfollowed := true, recurses := true, named := ["math/bits.deBruijn32tab", "math/bits.deBruijn64tab"], apart := false, laid := [("math/bits.deBruijn32tab", laid_math_bits_deBruijn32tab), ("math/bits.deBruijn64tab", laid_math_bits_deBruijn64tab)], narrowed := true }
def FnExactGraphDropUptoSaid : Prop := fnExactGraphDropUptoRow.holds Tryd.pinned (OpenSpec.upto fnExactGraphDropSpec)

/-- 'laws.FnExactGraphPart', WHERE WHAT IT READS IS OF BULK AT MOST 1048576: true; the input reads as it did. -/
def fnExactGraphPartUptoRow : OpenClaim := { program := "ytfgpjgaigfbfcaadoor", sum := "e80423128a2ee394fe25e16417408829fe697765aa2c1dfab81d510af8748a10", func := "loop.example/graphpieces/laws.FnExactGraphPart", spec := "fnExactGraphPart", unfollowed := true, recurses := true, named := ["math/bits.deBruijn32tab", "math/bits.deBruijn64tab"], apart := false, laid := [("math/bits.deBruijn32tab", laid_math_bits_deBruijn32tab), ("math/bits.deBruijn64tab", laid_math_bits_deBruijn64tab)], narrowed := true }
def FnExactGraphPartUptoSaid : Prop := fnExactGraphPartUptoRow.holds Tryd.pinned (OpenSpec.upto fnExactGraphPartSpec)

/-- 'laws.FnExactGraphJoin', WHERE WHAT IT READS IS OF BULK AT MOST 1048576: true; the input reads as it did. -/
def fnExactGraphJoinUptoRow : OpenClaim := { program := "ytfgpjgaigfbfcaadoor", sum := "e80423128a2ee394fe25e16417408829fe697765aa2c1dfab81d510af8748a10", func := "loop.example/graphpieces/laws.FnExactGraphJoin", spec := "fnExactGraphJoin", unfollowed := true, recurses := true, named := ["math/bits.deBruijn32tab", "math/bits.deBruijn64tab"], apart := false, laid := [("math/bits.deBruijn32tab", laid_math_bits_deBruijn32tab), ("math/bits.deBruijn64tab", laid_math_bits_deBruijn64tab)], narrowed := true }
def FnExactGraphJoinUptoSaid : Prop := fnExactGraphJoinUptoRow.holds Tryd.pinned (OpenSpec.upto fnExactGraphJoinSpec)

/-- 'laws.FnExactGraphLinked', WHERE WHAT IT READS IS OF BULK AT MOST 1048576: true; the input reads as it did. -/
def fnExactGraphLinkedUptoRow : OpenClaim := { program := "ytfgpjgaigfbfcaadoor", sum := "e80423128a2ee394fe25e16417408829fe697765aa2c1dfab81d510af8748a10", func := "loop.example/graphpieces/laws.FnExactGraphLinked", spec := "fnExactGraphLinked", unfollowed := true, recurses := true, named := ["math/bits.deBruijn32tab", "math/bits.deBruijn64tab"], apart := false, laid := [("math/bits.deBruijn32tab", laid_math_bits_deBruijn32tab), ("math/bits.deBruijn64tab", laid_math_bits_deBruijn64tab)], narrowed := true }
def FnExactGraphLinkedUptoSaid : Prop := fnExactGraphLinkedUptoRow.holds Tryd.pinned (OpenSpec.upto fnExactGraphLinkedSpec)

/-- 'laws.FnExactAlikeIn', WHERE WHAT IT READS IS OF BULK AT MOST 1048576: true; the input reads as it did. -/
def fnExactAlikeInUptoRow : OpenClaim := { program := "ytfgpjgaigfbfcaadoor", sum := "e80423128a2ee394fe25e16417408829fe697765aa2c1dfab81d510af8748a10", func := "loop.example/graphpieces/laws.FnExactAlikeIn", spec := "fnExactAlikeIn", unfollowed := true, recurses := true, named := ["math/bits.deBruijn32tab", "math/bits.deBruijn64tab"], apart := false, laid := [("math/bits.deBruijn32tab", laid_math_bits_deBruijn32tab), ("math/bits.deBruijn64tab", laid_math_bits_deBruijn64tab)], narrowed := true }
def FnExactAlikeInUptoSaid : Prop := fnExactAlikeInUptoRow.holds Tryd.pinned (OpenSpec.upto fnExactAlikeInSpec)

end Rows
end Go.Proofs.YtfgpjgaigfbfcaaDoor
