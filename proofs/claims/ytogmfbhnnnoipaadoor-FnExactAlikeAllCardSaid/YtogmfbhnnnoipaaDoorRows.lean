/-
  NARROWER THAN 'FOR EVERY INPUT', by the rows' own cells (each row's printed sentence says how): FnExactNumberWalks: laid · FnExactNumberClosed: laid · FnExactNumberPoly: laid · FnExactNumberTrees: laid · FnExactNumberThree: laid · FnExactNumberDegrees: laid · FnExactNumberSame: laid · FnExactDeckBack: laid · FnExactAlikeAll: laid · FnDeck: laid.
  DERIVED. THE GIVEN ROWS OF THIS SEAT. 10 by the template 'for every input the law returns true; each argument reads behind the call as it read before'; 0 by the template 'total and deterministic' (their statements: YtogmfbhnnnoipaaDoorTotals.lean).
  GIVEN WITH THE SEED: the statements are not yours to turn. If you find one false, say at which input.
  Laid BY PROGRAM, IN A SANDBOX (cutbox-rows.mjs): the forced cells as the released guide's own fill.sh prints them over the translation 9ec4cb404c351f78… (all of the seat's roots in one cut). By AI agents, Wed Nov 11 2026. No macro, syntax, notation, axiom, sorry.
-/
import Derived.Test.YtogmfbhnnnoipaaDoorChecked
import GoSem.Claim
import GoSem.ClaimJoined
import GoSem.ClaimMapViews
import Derived.JoinedTies
import Derived.KernelRfl
namespace Go.Proofs.YtogmfbhnnnoipaaDoor
/- THE CELL 'sum', in the pinned program and in every row, IS THE sha256 OF THE DUMP (.gsa) THAT YtogmfbhnnnoipaaDoorProg.lean LOADS. Nothing in Lean hashes anything: it is a label: what it is worth is what the hold of that sum in a sandbox is worth. -/
noncomputable def Tryd.pinned : Pinned := { name := "ytogmfbhnnnoipaadoor", sum := "9ec4cb404c351f78c8272d3c4861adb33824fb5ae52165add852148b0a8d4a09", checked := Tryd.checked }
namespace Rows
def none {H : Type} : Left H := { results := [], args := [] }

/- WHAT THE LISTED PACKAGE-LEVEL VARIABLES READ AS WHEN THE CALL BEGINS. Each datum BY PROGRAM (the guide's laid-datum.mjs) off the statement by which the dump's own 'gosem.cut.vars' lays the variable. In a bare row this is a premise. The card (YtogmfbhnnnoipaaDoorCards.lean) ties it to the program's text. -/
def laid_math_bits_deBruijn32tab {H : Type} : DataW H := .agg [.lit (.int .u8 0), .lit (.int .u8 1), .lit (.int .u8 28), .lit (.int .u8 2), .lit (.int .u8 29), .lit (.int .u8 14), .lit (.int .u8 24), .lit (.int .u8 3), .lit (.int .u8 30), .lit (.int .u8 22), .lit (.int .u8 20), .lit (.int .u8 15), .lit (.int .u8 25), .lit (.int .u8 17), .lit (.int .u8 4), .lit (.int .u8 8), .lit (.int .u8 31), .lit (.int .u8 27), .lit (.int .u8 13), .lit (.int .u8 23), .lit (.int .u8 21), .lit (.int .u8 19), .lit (.int .u8 16), .lit (.int .u8 7), .lit (.int .u8 26), .lit (.int .u8 12), .lit (.int .u8 18), .lit (.int .u8 6), .lit (.int .u8 11), .lit (.int .u8 5), .lit (.int .u8 10), .lit (.int .u8 9)]
def laid_math_bits_deBruijn64tab {H : Type} : DataW H := .agg [.lit (.int .u8 0), .lit (.int .u8 1), .lit (.int .u8 56), .lit (.int .u8 2), .lit (.int .u8 57), .lit (.int .u8 49), .lit (.int .u8 28), .lit (.int .u8 3), .lit (.int .u8 61), .lit (.int .u8 58), .lit (.int .u8 42), .lit (.int .u8 50), .lit (.int .u8 38), .lit (.int .u8 29), .lit (.int .u8 17), .lit (.int .u8 4), .lit (.int .u8 62), .lit (.int .u8 47), .lit (.int .u8 59), .lit (.int .u8 36), .lit (.int .u8 45), .lit (.int .u8 43), .lit (.int .u8 51), .lit (.int .u8 22), .lit (.int .u8 53), .lit (.int .u8 39), .lit (.int .u8 33), .lit (.int .u8 30), .lit (.int .u8 24), .lit (.int .u8 18), .lit (.int .u8 12), .lit (.int .u8 5), .lit (.int .u8 63), .lit (.int .u8 55), .lit (.int .u8 48), .lit (.int .u8 27), .lit (.int .u8 60), .lit (.int .u8 41), .lit (.int .u8 37), .lit (.int .u8 16), .lit (.int .u8 46), .lit (.int .u8 35), .lit (.int .u8 44), .lit (.int .u8 21), .lit (.int .u8 52), .lit (.int .u8 32), .lit (.int .u8 23), .lit (.int .u8 11), .lit (.int .u8 54), .lit (.int .u8 26), .lit (.int .u8 40), .lit (.int .u8 15), .lit (.int .u8 34), .lit (.int .u8 20), .lit (.int .u8 31), .lit (.int .u8 10), .lit (.int .u8 25), .lit (.int .u8 14), .lit (.int .u8 19), .lit (.int .u8 9), .lit (.int .u8 13), .lit (.int .u8 8), .lit (.int .u8 7), .lit (.int .u8 6)]

/-- 'laws.FnExactNumberWalks': WHATEVER THE INPUT: true; the input reads as it did. -/
def fnExactNumberWalksSpec : ChangeSpec := { name := "fnExactNumberWalks", fn := fun _ => fun
  | [d1, d2] => { results := [.lit (.bool true)], args := [d1, d2] }
  | _ => none }
def fnExactNumberWalksRow : OpenClaim := { program := "ytogmfbhnnnoipaadoor", sum := "9ec4cb404c351f78c8272d3c4861adb33824fb5ae52165add852148b0a8d4a09", func := "loop.example/graphpieces/laws.FnExactNumberWalks", spec := "fnExactNumberWalks", unfollowed := true, recurses := true, named := ["math/bits.deBruijn32tab", "math/bits.deBruijn64tab"], apart := false, laid := [("math/bits.deBruijn32tab", laid_math_bits_deBruijn32tab), ("math/bits.deBruijn64tab", laid_math_bits_deBruijn64tab)] }
def FnExactNumberWalksSaid : Prop := fnExactNumberWalksRow.holds Tryd.pinned (OpenSpec.ofChange fnExactNumberWalksSpec)

/-- ITS FALSE NEIGHBOUR: 'it returns false'. Refute it at one input. -/
def fnExactNumberWalksWrong : ChangeSpec := { name := "fnExactNumberWalks", fn := fun _ => fun
  | [d1, d2] => { results := [.lit (.bool false)], args := [d1, d2] }
  | _ => none }
def FnExactNumberWalksWrongFalsely : Prop := fnExactNumberWalksRow.holds Tryd.pinned (OpenSpec.ofChange fnExactNumberWalksWrong)

/-- 'laws.FnExactNumberClosed': WHATEVER THE INPUT: true; the input reads as it did. -/
def fnExactNumberClosedSpec : ChangeSpec := { name := "fnExactNumberClosed", fn := fun _ => fun
  | [d1, d2] => { results := [.lit (.bool true)], args := [d1, d2] }
  | _ => none }
def fnExactNumberClosedRow : OpenClaim := { program := "ytogmfbhnnnoipaadoor", sum := "9ec4cb404c351f78c8272d3c4861adb33824fb5ae52165add852148b0a8d4a09", func := "loop.example/graphpieces/laws.FnExactNumberClosed", spec := "fnExactNumberClosed", unfollowed := true, recurses := true, named := ["math/bits.deBruijn32tab", "math/bits.deBruijn64tab"], apart := false, laid := [("math/bits.deBruijn32tab", laid_math_bits_deBruijn32tab), ("math/bits.deBruijn64tab", laid_math_bits_deBruijn64tab)] }
def FnExactNumberClosedSaid : Prop := fnExactNumberClosedRow.holds Tryd.pinned (OpenSpec.ofChange fnExactNumberClosedSpec)

/-- ITS FALSE NEIGHBOUR: 'it returns false'. Refute it at one input. -/
def fnExactNumberClosedWrong : ChangeSpec := { name := "fnExactNumberClosed", fn := fun _ => fun
  | [d1, d2] => { results := [.lit (.bool false)], args := [d1, d2] }
  | _ => none }
def FnExactNumberClosedWrongFalsely : Prop := fnExactNumberClosedRow.holds Tryd.pinned (OpenSpec.ofChange fnExactNumberClosedWrong)

/-- 'laws.FnExactNumberPoly': WHATEVER THE INPUT: true; the input reads as it did. -/
def fnExactNumberPolySpec : ChangeSpec := { name := "fnExactNumberPoly", fn := fun _ => fun
  | [d] => { results := [.lit (.bool true)], args := [d] }
  | _ => none }
def fnExactNumberPolyRow : OpenClaim := { program := "ytogmfbhnnnoipaadoor", sum := "9ec4cb404c351f78c8272d3c4861adb33824fb5ae52165add852148b0a8d4a09", func := "loop.example/graphpieces/laws.FnExactNumberPoly", spec := "fnExactNumberPoly", unfollowed := true, recurses := true, named := ["math/bits.deBruijn32tab", "math/bits.deBruijn64tab"], apart := false, laid := [("math/bits.deBruijn32tab", laid_math_bits_deBruijn32tab), ("math/bits.deBruijn64tab", laid_math_bits_deBruijn64tab)] }
def FnExactNumberPolySaid : Prop := fnExactNumberPolyRow.holds Tryd.pinned (OpenSpec.ofChange fnExactNumberPolySpec)

/-- ITS FALSE NEIGHBOUR: 'it returns false'. Refute it at one input. -/
def fnExactNumberPolyWrong : ChangeSpec := { name := "fnExactNumberPoly", fn := fun _ => fun
  | [d] => { results := [.lit (.bool false)], args := [d] }
  | _ => none }
def FnExactNumberPolyWrongFalsely : Prop := fnExactNumberPolyRow.holds Tryd.pinned (OpenSpec.ofChange fnExactNumberPolyWrong)

/-- 'laws.FnExactNumberTrees': WHATEVER THE INPUT: true; the input reads as it did. -/
def fnExactNumberTreesSpec : ChangeSpec := { name := "fnExactNumberTrees", fn := fun _ => fun
  | [d] => { results := [.lit (.bool true)], args := [d] }
  | _ => none }
def fnExactNumberTreesRow : OpenClaim := { program := "ytogmfbhnnnoipaadoor", sum := "9ec4cb404c351f78c8272d3c4861adb33824fb5ae52165add852148b0a8d4a09", func := "loop.example/graphpieces/laws.FnExactNumberTrees", spec := "fnExactNumberTrees", unfollowed := true, recurses := true, named := ["math/bits.deBruijn32tab", "math/bits.deBruijn64tab"], apart := false, laid := [("math/bits.deBruijn32tab", laid_math_bits_deBruijn32tab), ("math/bits.deBruijn64tab", laid_math_bits_deBruijn64tab)] }
def FnExactNumberTreesSaid : Prop := fnExactNumberTreesRow.holds Tryd.pinned (OpenSpec.ofChange fnExactNumberTreesSpec)

/-- ITS FALSE NEIGHBOUR: 'it returns false'. Refute it at one input. -/
def fnExactNumberTreesWrong : ChangeSpec := { name := "fnExactNumberTrees", fn := fun _ => fun
  | [d] => { results := [.lit (.bool false)], args := [d] }
  | _ => none }
def FnExactNumberTreesWrongFalsely : Prop := fnExactNumberTreesRow.holds Tryd.pinned (OpenSpec.ofChange fnExactNumberTreesWrong)

/-- 'laws.FnExactNumberThree': WHATEVER THE INPUT: true; the input reads as it did. -/
def fnExactNumberThreeSpec : ChangeSpec := { name := "fnExactNumberThree", fn := fun _ => fun
  | [d] => { results := [.lit (.bool true)], args := [d] }
  | _ => none }
def fnExactNumberThreeRow : OpenClaim := { program := "ytogmfbhnnnoipaadoor", sum := "9ec4cb404c351f78c8272d3c4861adb33824fb5ae52165add852148b0a8d4a09", func := "loop.example/graphpieces/laws.FnExactNumberThree", spec := "fnExactNumberThree", unfollowed := true, recurses := true, named := ["math/bits.deBruijn32tab", "math/bits.deBruijn64tab"], apart := false, laid := [("math/bits.deBruijn32tab", laid_math_bits_deBruijn32tab), ("math/bits.deBruijn64tab", laid_math_bits_deBruijn64tab)] }
def FnExactNumberThreeSaid : Prop := fnExactNumberThreeRow.holds Tryd.pinned (OpenSpec.ofChange fnExactNumberThreeSpec)

/-- ITS FALSE NEIGHBOUR: 'it returns false'. Refute it at one input. -/
def fnExactNumberThreeWrong : ChangeSpec := { name := "fnExactNumberThree", fn := fun _ => fun
  | [d] => { results := [.lit (.bool false)], args := [d] }
  | _ => none }
def FnExactNumberThreeWrongFalsely : Prop := fnExactNumberThreeRow.holds Tryd.pinned (OpenSpec.ofChange fnExactNumberThreeWrong)

/-- 'laws.FnExactNumberDegrees': WHATEVER THE INPUT: true; the input reads as it did. -/
def fnExactNumberDegreesSpec : ChangeSpec := { name := "fnExactNumberDegrees", fn := fun _ => fun
  | [d] => { results := [.lit (.bool true)], args := [d] }
  | _ => none }
def fnExactNumberDegreesRow : OpenClaim := { program := "ytogmfbhnnnoipaadoor", sum := "9ec4cb404c351f78c8272d3c4861adb33824fb5ae52165add852148b0a8d4a09", func := "loop.example/graphpieces/laws.FnExactNumberDegrees", spec := "fnExactNumberDegrees", unfollowed := true, recurses := true, named := ["math/bits.deBruijn32tab", "math/bits.deBruijn64tab"], apart := false, laid := [("math/bits.deBruijn32tab", laid_math_bits_deBruijn32tab), ("math/bits.deBruijn64tab", laid_math_bits_deBruijn64tab)] }
def FnExactNumberDegreesSaid : Prop := fnExactNumberDegreesRow.holds Tryd.pinned (OpenSpec.ofChange fnExactNumberDegreesSpec)

/-- ITS FALSE NEIGHBOUR: 'it returns false'. Refute it at one input. -/
def fnExactNumberDegreesWrong : ChangeSpec := { name := "fnExactNumberDegrees", fn := fun _ => fun
  | [d] => { results := [.lit (.bool false)], args := [d] }
  | _ => none }
def FnExactNumberDegreesWrongFalsely : Prop := fnExactNumberDegreesRow.holds Tryd.pinned (OpenSpec.ofChange fnExactNumberDegreesWrong)

/-- 'laws.FnExactNumberSame': WHATEVER THE INPUT: true; the input reads as it did. -/
def fnExactNumberSameSpec : ChangeSpec := { name := "fnExactNumberSame", fn := fun _ => fun
  | [d1, d2] => { results := [.lit (.bool true)], args := [d1, d2] }
  | _ => none }
def fnExactNumberSameRow : OpenClaim := { program := "ytogmfbhnnnoipaadoor", sum := "9ec4cb404c351f78c8272d3c4861adb33824fb5ae52165add852148b0a8d4a09", func := "loop.example/graphpieces/laws.FnExactNumberSame", spec := "fnExactNumberSame", unfollowed := true, recurses := true, named := ["math/bits.deBruijn32tab", "math/bits.deBruijn64tab"], apart := false, laid := [("math/bits.deBruijn32tab", laid_math_bits_deBruijn32tab), ("math/bits.deBruijn64tab", laid_math_bits_deBruijn64tab)] }
def FnExactNumberSameSaid : Prop := fnExactNumberSameRow.holds Tryd.pinned (OpenSpec.ofChange fnExactNumberSameSpec)

/-- ITS FALSE NEIGHBOUR: 'it returns false'. Refute it at one input. -/
def fnExactNumberSameWrong : ChangeSpec := { name := "fnExactNumberSame", fn := fun _ => fun
  | [d1, d2] => { results := [.lit (.bool false)], args := [d1, d2] }
  | _ => none }
def FnExactNumberSameWrongFalsely : Prop := fnExactNumberSameRow.holds Tryd.pinned (OpenSpec.ofChange fnExactNumberSameWrong)

/-- 'laws.FnExactDeckBack': WHATEVER THE INPUT: true; the input reads as it did. -/
def fnExactDeckBackSpec : ChangeSpec := { name := "fnExactDeckBack", fn := fun _ => fun
  | [d1, d2] => { results := [.lit (.bool true)], args := [d1, d2] }
  | _ => none }
def fnExactDeckBackRow : OpenClaim := { program := "ytogmfbhnnnoipaadoor", sum := "9ec4cb404c351f78c8272d3c4861adb33824fb5ae52165add852148b0a8d4a09", func := "loop.example/graphpieces/laws.FnExactDeckBack", spec := "fnExactDeckBack", unfollowed := true, recurses := true, named := ["math/bits.deBruijn32tab", "math/bits.deBruijn64tab"], apart := false, laid := [("math/bits.deBruijn32tab", laid_math_bits_deBruijn32tab), ("math/bits.deBruijn64tab", laid_math_bits_deBruijn64tab)] }
def FnExactDeckBackSaid : Prop := fnExactDeckBackRow.holds Tryd.pinned (OpenSpec.ofChange fnExactDeckBackSpec)

/-- ITS FALSE NEIGHBOUR: 'it returns false'. Refute it at one input. -/
def fnExactDeckBackWrong : ChangeSpec := { name := "fnExactDeckBack", fn := fun _ => fun
  | [d1, d2] => { results := [.lit (.bool false)], args := [d1, d2] }
  | _ => none }
def FnExactDeckBackWrongFalsely : Prop := fnExactDeckBackRow.holds Tryd.pinned (OpenSpec.ofChange fnExactDeckBackWrong)

/-- 'laws.FnExactAlikeAll': WHATEVER THE INPUT: true; the input reads as it did. -/
def fnExactAlikeAllSpec : ChangeSpec := { name := "fnExactAlikeAll", fn := fun _ => fun
  | [d] => { results := [.lit (.bool true)], args := [d] }
  | _ => none }
def fnExactAlikeAllRow : OpenClaim := { program := "ytogmfbhnnnoipaadoor", sum := "9ec4cb404c351f78c8272d3c4861adb33824fb5ae52165add852148b0a8d4a09", func := "loop.example/graphpieces/laws.FnExactAlikeAll", spec := "fnExactAlikeAll", unfollowed := true, recurses := true, named := ["math/bits.deBruijn32tab", "math/bits.deBruijn64tab"], apart := false, laid := [("math/bits.deBruijn32tab", laid_math_bits_deBruijn32tab), ("math/bits.deBruijn64tab", laid_math_bits_deBruijn64tab)] }
def FnExactAlikeAllSaid : Prop := fnExactAlikeAllRow.holds Tryd.pinned (OpenSpec.ofChange fnExactAlikeAllSpec)

/-- ITS FALSE NEIGHBOUR: 'it returns false'. Refute it at one input. -/
def fnExactAlikeAllWrong : ChangeSpec := { name := "fnExactAlikeAll", fn := fun _ => fun
  | [d] => { results := [.lit (.bool false)], args := [d] }
  | _ => none }
def FnExactAlikeAllWrongFalsely : Prop := fnExactAlikeAllRow.holds Tryd.pinned (OpenSpec.ofChange fnExactAlikeAllWrong)

/-- 'laws.FnDeck': WHATEVER THE INPUT: true; the input reads as it did. -/
def fnDeckSpec : ChangeSpec := { name := "fnDeck", fn := fun _ => fun
  | [d] => { results := [.lit (.bool true)], args := [d] }
  | _ => none }
def fnDeckRow : OpenClaim := { program := "ytogmfbhnnnoipaadoor", sum := "9ec4cb404c351f78c8272d3c4861adb33824fb5ae52165add852148b0a8d4a09", func := "loop.example/graphpieces/laws.FnDeck", spec := "fnDeck", unfollowed := true, recurses := true, named := ["math/bits.deBruijn32tab", "math/bits.deBruijn64tab"], apart := false, laid := [("math/bits.deBruijn32tab", laid_math_bits_deBruijn32tab), ("math/bits.deBruijn64tab", laid_math_bits_deBruijn64tab)] }
def FnDeckSaid : Prop := fnDeckRow.holds Tryd.pinned (OpenSpec.ofChange fnDeckSpec)

/-- ITS FALSE NEIGHBOUR: 'it returns false'. Refute it at one input. -/
def fnDeckWrong : ChangeSpec := { name := "fnDeck", fn := fun _ => fun
  | [d] => { results := [.lit (.bool false)], args := [d] }
  | _ => none }
def FnDeckWrongFalsely : Prop := fnDeckRow.holds Tryd.pinned (OpenSpec.ofChange fnDeckWrong)

/- THE SECOND FORM. 'bulk': how many values and letters a reading holds, each counted each time it is reached (what is shared counts as often as it is met; a slice's spare places count too). A statement '..UptoSaid' is the law's where the arguments, and the package variables that the reading takes, are together of bulk at most 1048576: NARROWER than '..Said'. Prove '..Said' where nothing that the law and all that it calls make is longer than what came in: it says more and counts as full. Else prove '..UptoSaid'. A law counts once. -/
mutual
def uptoBulk {H : Type} : DataW H → Nat
  | .lit (.string bytes) => bytes.length + 1
  | .lit _ => 1
  | .nil => 1
  | .ptr d => uptoBulk d + 1
  | .slice elems spare => uptoBulkAll elems + uptoBulkAll spare + 1
  | .agg parts => uptoBulkAll parts + 1
  | .iface _ d => uptoBulk d + 1
  | .map entries => uptoBulkEntries entries + 1
  | .held _ => 1
def uptoBulkAll {H : Type} : List (DataW H) → Nat
  | [] => 0
  | d :: r => uptoBulk d + uptoBulkAll r
def uptoBulkEntries {H : Type} : List (Lit × DataW H) → Nat
  | [] => 0
  | x :: r => uptoBulkEntry x + uptoBulkEntries r
def uptoBulkEntry {H : Type} : Lit × DataW H → Nat
  | (.string bytes, d) => bytes.length + uptoBulk d + 1
  | (_, d) => uptoBulk d + 1
 end
def uptoSmall : (H : Type) → List (DataW H) → Bool := fun _ ds => decide (uptoBulkAll ds ≤ 1048576)
def OpenSpec.upto (s : _root_.Go.ChangeSpec) : _root_.Go.OpenSpec := { _root_.Go.OpenSpec.ofChange s with cond := some uptoSmall }

/-- 'laws.FnExactNumberWalks', WHERE WHAT IT READS IS OF BULK AT MOST 1048576: true; the input reads as it did. -/
def fnExactNumberWalksUptoRow : OpenClaim := { program := "ytogmfbhnnnoipaadoor", sum := "9ec4cb404c351f78c8272d3c4861adb33824fb5ae52165add852148b0a8d4a09", func := "loop.example/graphpieces/laws.FnExactNumberWalks", spec := "fnExactNumberWalks", unfollowed := true, recurses := true, named := ["math/bits.deBruijn32tab", "math/bits.deBruijn64tab"], apart := false, laid := [("math/bits.deBruijn32tab", laid_math_bits_deBruijn32tab), ("math/bits.deBruijn64tab", laid_math_bits_deBruijn64tab)], narrowed := true }
def FnExactNumberWalksUptoSaid : Prop := fnExactNumberWalksUptoRow.holds Tryd.pinned (OpenSpec.upto fnExactNumberWalksSpec)

/-- 'laws.FnExactNumberClosed', WHERE WHAT IT READS IS OF BULK AT MOST 1048576: true; the input reads as it did. -/
def fnExactNumberClosedUptoRow : OpenClaim := { program := "ytogmfbhnnnoipaadoor", sum := "9ec4cb404c351f78c8272d3c4861adb33824fb5ae52165add852148b0a8d4a09", func := "loop.example/graphpieces/laws.FnExactNumberClosed", spec := "fnExactNumberClosed", unfollowed := true, recurses := true, named := ["math/bits.deBruijn32tab", "math/bits.deBruijn64tab"], apart := false, laid := [("math/bits.deBruijn32tab", laid_math_bits_deBruijn32tab), ("math/bits.deBruijn64tab", laid_math_bits_deBruijn64tab)], narrowed := true }
def FnExactNumberClosedUptoSaid : Prop := fnExactNumberClosedUptoRow.holds Tryd.pinned (OpenSpec.upto fnExactNumberClosedSpec)

/-- 'laws.FnExactNumberPoly', WHERE WHAT IT READS IS OF BULK AT MOST 1048576: true; the input reads as it did. -/
def fnExactNumberPolyUptoRow : OpenClaim := { program := "ytogmfbhnnnoipaadoor", sum := "9ec4cb404c351f78c8272d3c4861adb33824fb5ae52165add852148b0a8d4a09", func := "loop.example/graphpieces/laws.FnExactNumberPoly", spec := "fnExactNumberPoly", unfollowed := true, recurses := true, named := ["math/bits.deBruijn32tab", "math/bits.deBruijn64tab"], apart := false, laid := [("math/bits.deBruijn32tab", laid_math_bits_deBruijn32tab), ("math/bits.deBruijn64tab", laid_math_bits_deBruijn64tab)], narrowed := true }
def FnExactNumberPolyUptoSaid : Prop := fnExactNumberPolyUptoRow.holds Tryd.pinned (OpenSpec.upto fnExactNumberPolySpec)

/-- 'laws.FnExactNumberTrees', WHERE WHAT IT READS IS OF BULK AT MOST 1048576: true; the input reads as it did. -/
def fnExactNumberTreesUptoRow : OpenClaim := { program := "ytogmfbhnnnoipaadoor", sum := "9ec4cb404c351f78c8272d3c4861adb33824fb5ae52165add852148b0a8d4a09", func := "loop.example/graphpieces/laws.FnExactNumberTrees", spec := "fnExactNumberTrees", unfollowed := true, recurses := true, named := ["math/bits.deBruijn32tab", "math/bits.deBruijn64tab"], apart := false, laid := [("math/bits.deBruijn32tab", laid_math_bits_deBruijn32tab), ("math/bits.deBruijn64tab", laid_math_bits_deBruijn64tab)], narrowed := true }
def FnExactNumberTreesUptoSaid : Prop := fnExactNumberTreesUptoRow.holds Tryd.pinned (OpenSpec.upto fnExactNumberTreesSpec)

/-- 'laws.FnExactNumberThree', WHERE WHAT IT READS IS OF BULK AT MOST 1048576: true; the input reads as it did. -/
def fnExactNumberThreeUptoRow : OpenClaim := { program := "ytogmfbhnnnoipaadoor", sum := "9ec4cb404c351f78c8272d3c4861adb33824fb5ae52165add852148b0a8d4a09", func := "loop.example/graphpieces/laws.FnExactNumberThree", spec := "fnExactNumberThree", unfollowed := true, recurses := true, named := ["math/bits.deBruijn32tab", "math/bits.deBruijn64tab"], apart := false, laid := [("math/bits.deBruijn32tab", laid_math_bits_deBruijn32tab), ("math/bits.deBruijn64tab", laid_math_bits_deBruijn64tab)], narrowed := true }
def FnExactNumberThreeUptoSaid : Prop := fnExactNumberThreeUptoRow.holds Tryd.pinned (OpenSpec.upto fnExactNumberThreeSpec)

/-- 'laws.FnExactNumberDegrees', WHERE WHAT IT READS IS OF BULK AT MOST 1048576: true; the input reads as it did. -/
def fnExactNumberDegreesUptoRow : OpenClaim := { program := "ytogmfbhnnnoipaadoor", sum := "9ec4cb404c351f78c8272d3c4861adb33824fb5ae52165add852148b0a8d4a09", func := "loop.example/graphpieces/laws.FnExactNumberDegrees", spec := "fnExactNumberDegrees", unfollowed := true, recurses := true, named := ["math/bits.deBruijn32tab", "math/bits.deBruijn64tab"], apart := false, laid := [("math/bits.deBruijn32tab", laid_math_bits_deBruijn32tab), ("math/bits.deBruijn64tab", laid_math_bits_deBruijn64tab)], narrowed := true }
def FnExactNumberDegreesUptoSaid : Prop := fnExactNumberDegreesUptoRow.holds Tryd.pinned (OpenSpec.upto fnExactNumberDegreesSpec)

/-- 'laws.FnExactNumberSame', WHERE WHAT IT READS IS OF BULK AT MOST 1048576: true; the input reads as it did. -/
def fnExactNumberSameUptoRow : OpenClaim := { program := "ytogmfbhnnnoipaadoor", sum := "9ec4cb404c351f78c8272d3c4861adb33824fb5ae52165add852148b0a8d4a09", func := "loop.example/graphpieces/laws.FnExactNumberSame", spec := "fnExactNumberSame", unfollowed := true, recurses := true, named := ["math/bits.deBruijn32tab", "math/bits.deBruijn64tab"], apart := false, laid := [("math/bits.deBruijn32tab", laid_math_bits_deBruijn32tab), ("math/bits.deBruijn64tab", laid_math_bits_deBruijn64tab)], narrowed := true }
def FnExactNumberSameUptoSaid : Prop := fnExactNumberSameUptoRow.holds Tryd.pinned (OpenSpec.upto fnExactNumberSameSpec)

/-- 'laws.FnExactDeckBack', WHERE WHAT IT READS IS OF BULK AT MOST 1048576: true; the input reads as it did. -/
def fnExactDeckBackUptoRow : OpenClaim := { program := "ytogmfbhnnnoipaadoor", sum := "9ec4cb404c351f78c8272d3c4861adb33824fb5ae52165add852148b0a8d4a09", func := "loop.example/graphpieces/laws.FnExactDeckBack", spec := "fnExactDeckBack", unfollowed := true, recurses := true, named := ["math/bits.deBruijn32tab", "math/bits.deBruijn64tab"], apart := false, laid := [("math/bits.deBruijn32tab", laid_math_bits_deBruijn32tab), ("math/bits.deBruijn64tab", laid_math_bits_deBruijn64tab)], narrowed := true }
def FnExactDeckBackUptoSaid : Prop := fnExactDeckBackUptoRow.holds Tryd.pinned (OpenSpec.upto fnExactDeckBackSpec)

/-- 'laws.FnExactAlikeAll', WHERE WHAT IT READS IS OF BULK AT MOST 1048576: true; the input reads as it did. -/
def fnExactAlikeAllUptoRow : OpenClaim := { program := "ytogmfbhnnnoipaadoor", sum := "9ec4cb404c351f78c8272d3c4861adb33824fb5ae52165add852148b0a8d4a09", func := "loop.example/graphpieces/laws.FnExactAlikeAll", spec := "fnExactAlikeAll", unfollowed := true, recurses := true, named := ["math/bits.deBruijn32tab", "math/bits.deBruijn64tab"], apart := false, laid := [("math/bits.deBruijn32tab", laid_math_bits_deBruijn32tab), ("math/bits.deBruijn64tab", laid_math_bits_deBruijn64tab)], narrowed := true }
def FnExactAlikeAllUptoSaid : Prop := fnExactAlikeAllUptoRow.holds Tryd.pinned (OpenSpec.upto fnExactAlikeAllSpec)

/-- 'laws.FnDeck', WHERE WHAT IT READS IS OF BULK AT MOST 1048576: true; the input reads as it did. -/
def fnDeckUptoRow : OpenClaim := { program := "ytogmfbhnnnoipaadoor", sum := "9ec4cb404c351f78c8272d3c4861adb33824fb5ae52165add852148b0a8d4a09", func := "loop.example/graphpieces/laws.FnDeck", spec := "fnDeck", unfollowed := true, recurses := true, named := ["math/bits.deBruijn32tab", "math/bits.deBruijn64tab"], apart := false, laid := [("math/bits.deBruijn32tab", laid_math_bits_deBruijn32tab), ("math/bits.deBruijn64tab", laid_math_bits_deBruijn64tab)], narrowed := true }
def FnDeckUptoSaid : Prop := fnDeckUptoRow.holds Tryd.pinned (OpenSpec.upto fnDeckSpec)

end Rows
end Go.Proofs.YtogmfbhnnnoipaaDoor
