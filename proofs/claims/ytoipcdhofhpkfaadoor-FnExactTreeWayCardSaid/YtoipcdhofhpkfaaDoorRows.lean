/-
  NARROWER THAN 'FOR EVERY INPUT', by the rows' own cells (each row's printed sentence says how): FnMiddle: laid · FnExactTreeIn: laid · FnExactTreeLetters: laid · FnExactTreeFrom: laid · FnExactTreeMiddle: laid · FnExactTreeWay: laid · FnExactTreeExchanges: laid · FnExactTreeFirst: laid · FnExactTreeFar: laid.
  DERIVED. THE GIVEN ROWS OF THIS SEAT. 9 by the template 'for every input the law returns true; each argument reads behind the call as it read before'; 0 by the template 'total and deterministic' (their statements: YtoipcdhofhpkfaaDoorTotals.lean).
  GIVEN WITH THE SEED: the statements are not yours to turn. If you find one false, say at which input.
  Laid BY PROGRAM, IN A SANDBOX (cutbox-rows.mjs): the forced cells as the released guide's own fill.sh prints them over the translation 29fc4e09bd8ed2ea… (all of the seat's roots in one cut). By AI agents, Wed Nov 11 2026. No macro, syntax, notation, axiom, sorry.
-/
import Derived.Test.YtoipcdhofhpkfaaDoorChecked
import GoSem.Claim
import GoSem.ClaimJoined
import GoSem.ClaimMapViews
import Derived.JoinedTies
import Derived.KernelRfl
namespace Go.Proofs.YtoipcdhofhpkfaaDoor
/- THE CELL 'sum', in the pinned program and in every row, IS THE sha256 OF THE DUMP (.gsa) THAT YtoipcdhofhpkfaaDoorProg.lean LOADS. Nothing in Lean hashes anything: it is a label: what it is worth is what the hold of that sum in a sandbox is worth. -/
noncomputable def Tryd.pinned : Pinned := { name := "ytoipcdhofhpkfaadoor", sum := "29fc4e09bd8ed2eacb81e1b687d7b8af892dce2a67d57067d75905c8ed16e6ce", checked := Tryd.checked }
namespace Rows
def none {H : Type} : Left H := { results := [], args := [] }

/- WHAT THE LISTED PACKAGE-LEVEL VARIABLES READ AS WHEN THE CALL BEGINS. Each datum BY PROGRAM (the guide's laid-datum.mjs) off the statement by which the dump's own 'gosem.cut.vars' lays the variable. In a bare row this is a premise. The card (YtoipcdhofhpkfaaDoorCards.lean) ties it to the program's text. -/
def laid_math_bits_deBruijn32tab {H : Type} : DataW H := .agg [.lit (.int .u8 0), .lit (.int .u8 1), .lit (.int .u8 28), .lit (.int .u8 2), .lit (.int .u8 29), .lit (.int .u8 14), .lit (.int .u8 24), .lit (.int .u8 3), .lit (.int .u8 30), .lit (.int .u8 22), .lit (.int .u8 20), .lit (.int .u8 15), .lit (.int .u8 25), .lit (.int .u8 17), .lit (.int .u8 4), .lit (.int .u8 8), .lit (.int .u8 31), .lit (.int .u8 27), .lit (.int .u8 13), .lit (.int .u8 23), .lit (.int .u8 21), .lit (.int .u8 19), .lit (.int .u8 16), .lit (.int .u8 7), .lit (.int .u8 26), .lit (.int .u8 12), .lit (.int .u8 18), .lit (.int .u8 6), .lit (.int .u8 11), .lit (.int .u8 5), .lit (.int .u8 10), .lit (.int .u8 9)]
def laid_math_bits_deBruijn64tab {H : Type} : DataW H := .agg [.lit (.int .u8 0), .lit (.int .u8 1), .lit (.int .u8 56), .lit (.int .u8 2), .lit (.int .u8 57), .lit (.int .u8 49), .lit (.int .u8 28), .lit (.int .u8 3), .lit (.int .u8 61), .lit (.int .u8 58), .lit (.int .u8 42), .lit (.int .u8 50), .lit (.int .u8 38), .lit (.int .u8 29), .lit (.int .u8 17), .lit (.int .u8 4), .lit (.int .u8 62), .lit (.int .u8 47), .lit (.int .u8 59), .lit (.int .u8 36), .lit (.int .u8 45), .lit (.int .u8 43), .lit (.int .u8 51), .lit (.int .u8 22), .lit (.int .u8 53), .lit (.int .u8 39), .lit (.int .u8 33), .lit (.int .u8 30), .lit (.int .u8 24), .lit (.int .u8 18), .lit (.int .u8 12), .lit (.int .u8 5), .lit (.int .u8 63), .lit (.int .u8 55), .lit (.int .u8 48), .lit (.int .u8 27), .lit (.int .u8 60), .lit (.int .u8 41), .lit (.int .u8 37), .lit (.int .u8 16), .lit (.int .u8 46), .lit (.int .u8 35), .lit (.int .u8 44), .lit (.int .u8 21), .lit (.int .u8 52), .lit (.int .u8 32), .lit (.int .u8 23), .lit (.int .u8 11), .lit (.int .u8 54), .lit (.int .u8 26), .lit (.int .u8 40), .lit (.int .u8 15), .lit (.int .u8 34), .lit (.int .u8 20), .lit (.int .u8 31), .lit (.int .u8 10), .lit (.int .u8 25), .lit (.int .u8 14), .lit (.int .u8 19), .lit (.int .u8 9), .lit (.int .u8 13), .lit (.int .u8 8), .lit (.int .u8 7), .lit (.int .u8 6)]

/-- 'laws.FnMiddle': WHATEVER THE INPUT: true; the input reads as it did. -/
def fnMiddleSpec : ChangeSpec := { name := "fnMiddle", fn := fun _ => fun
  | [d] => { results := [.lit (.bool true)], args := [d] }
  | _ => none }
def fnMiddleRow : OpenClaim := { program := "ytoipcdhofhpkfaadoor", sum := "29fc4e09bd8ed2eacb81e1b687d7b8af892dce2a67d57067d75905c8ed16e6ce", func := "loop.example/graphpieces/laws.FnMiddle", spec := "fnMiddle", unfollowed := true, recurses := true, named := ["math/bits.deBruijn32tab", "math/bits.deBruijn64tab"], apart := false, laid := [("math/bits.deBruijn32tab", laid_math_bits_deBruijn32tab), ("math/bits.deBruijn64tab", laid_math_bits_deBruijn64tab)] }
def FnMiddleSaid : Prop := fnMiddleRow.holds Tryd.pinned (OpenSpec.ofChange fnMiddleSpec)

/-- ITS FALSE NEIGHBOUR: 'it returns false'. Refute it at one input. -/
def fnMiddleWrong : ChangeSpec := { name := "fnMiddle", fn := fun _ => fun
  | [d] => { results := [.lit (.bool false)], args := [d] }
  | _ => none }
def FnMiddleWrongFalsely : Prop := fnMiddleRow.holds Tryd.pinned (OpenSpec.ofChange fnMiddleWrong)

/-- 'laws.FnExactTreeIn': WHATEVER THE INPUT: true; the input reads as it did. -/
def fnExactTreeInSpec : ChangeSpec := { name := "fnExactTreeIn", fn := fun _ => fun
  | [d] => { results := [.lit (.bool true)], args := [d] }
  | _ => none }
def fnExactTreeInRow : OpenClaim := { program := "ytoipcdhofhpkfaadoor", sum := "29fc4e09bd8ed2eacb81e1b687d7b8af892dce2a67d57067d75905c8ed16e6ce", func := "loop.example/graphpieces/laws.FnExactTreeIn", spec := "fnExactTreeIn", unfollowed := true, recurses := true, named := ["math/bits.deBruijn32tab", "math/bits.deBruijn64tab"], apart := false, laid := [("math/bits.deBruijn32tab", laid_math_bits_deBruijn32tab), ("math/bits.deBruijn64tab", laid_math_bits_deBruijn64tab)] }
def FnExactTreeInSaid : Prop := fnExactTreeInRow.holds Tryd.pinned (OpenSpec.ofChange fnExactTreeInSpec)

/-- ITS FALSE NEIGHBOUR: 'it returns false'. Refute it at one input. -/
def fnExactTreeInWrong : ChangeSpec := { name := "fnExactTreeIn", fn := fun _ => fun
  | [d] => { results := [.lit (.bool false)], args := [d] }
  | _ => none }
def FnExactTreeInWrongFalsely : Prop := fnExactTreeInRow.holds Tryd.pinned (OpenSpec.ofChange fnExactTreeInWrong)

/-- 'laws.FnExactTreeLetters': WHATEVER THE INPUT: true; the input reads as it did. -/
def fnExactTreeLettersSpec : ChangeSpec := { name := "fnExactTreeLetters", fn := fun _ => fun
  | [d] => { results := [.lit (.bool true)], args := [d] }
  | _ => none }
def fnExactTreeLettersRow : OpenClaim := { program := "ytoipcdhofhpkfaadoor", sum := "29fc4e09bd8ed2eacb81e1b687d7b8af892dce2a67d57067d75905c8ed16e6ce", func := "loop.example/graphpieces/laws.FnExactTreeLetters", spec := "fnExactTreeLetters", unfollowed := true, recurses := true, named := ["math/bits.deBruijn32tab", "math/bits.deBruijn64tab"], apart := false, laid := [("math/bits.deBruijn32tab", laid_math_bits_deBruijn32tab), ("math/bits.deBruijn64tab", laid_math_bits_deBruijn64tab)] }
def FnExactTreeLettersSaid : Prop := fnExactTreeLettersRow.holds Tryd.pinned (OpenSpec.ofChange fnExactTreeLettersSpec)

/-- ITS FALSE NEIGHBOUR: 'it returns false'. Refute it at one input. -/
def fnExactTreeLettersWrong : ChangeSpec := { name := "fnExactTreeLetters", fn := fun _ => fun
  | [d] => { results := [.lit (.bool false)], args := [d] }
  | _ => none }
def FnExactTreeLettersWrongFalsely : Prop := fnExactTreeLettersRow.holds Tryd.pinned (OpenSpec.ofChange fnExactTreeLettersWrong)

/-- 'laws.FnExactTreeFrom': WHATEVER THE INPUT: true; the input reads as it did. -/
def fnExactTreeFromSpec : ChangeSpec := { name := "fnExactTreeFrom", fn := fun _ => fun
  | [d1, d2] => { results := [.lit (.bool true)], args := [d1, d2] }
  | _ => none }
def fnExactTreeFromRow : OpenClaim := { program := "ytoipcdhofhpkfaadoor", sum := "29fc4e09bd8ed2eacb81e1b687d7b8af892dce2a67d57067d75905c8ed16e6ce", func := "loop.example/graphpieces/laws.FnExactTreeFrom", spec := "fnExactTreeFrom", unfollowed := true, recurses := true, named := ["math/bits.deBruijn32tab", "math/bits.deBruijn64tab"], apart := false, laid := [("math/bits.deBruijn32tab", laid_math_bits_deBruijn32tab), ("math/bits.deBruijn64tab", laid_math_bits_deBruijn64tab)] }
def FnExactTreeFromSaid : Prop := fnExactTreeFromRow.holds Tryd.pinned (OpenSpec.ofChange fnExactTreeFromSpec)

/-- ITS FALSE NEIGHBOUR: 'it returns false'. Refute it at one input. -/
def fnExactTreeFromWrong : ChangeSpec := { name := "fnExactTreeFrom", fn := fun _ => fun
  | [d1, d2] => { results := [.lit (.bool false)], args := [d1, d2] }
  | _ => none }
def FnExactTreeFromWrongFalsely : Prop := fnExactTreeFromRow.holds Tryd.pinned (OpenSpec.ofChange fnExactTreeFromWrong)

/-- 'laws.FnExactTreeMiddle': WHATEVER THE INPUT: true; the input reads as it did. -/
def fnExactTreeMiddleSpec : ChangeSpec := { name := "fnExactTreeMiddle", fn := fun _ => fun
  | [d] => { results := [.lit (.bool true)], args := [d] }
  | _ => none }
def fnExactTreeMiddleRow : OpenClaim := { program := "ytoipcdhofhpkfaadoor", sum := "29fc4e09bd8ed2eacb81e1b687d7b8af892dce2a67d57067d75905c8ed16e6ce", func := "loop.example/graphpieces/laws.FnExactTreeMiddle", spec := "fnExactTreeMiddle", unfollowed := true, recurses := true, named := ["math/bits.deBruijn32tab", "math/bits.deBruijn64tab"], apart := false, laid := [("math/bits.deBruijn32tab", laid_math_bits_deBruijn32tab), ("math/bits.deBruijn64tab", laid_math_bits_deBruijn64tab)] }
def FnExactTreeMiddleSaid : Prop := fnExactTreeMiddleRow.holds Tryd.pinned (OpenSpec.ofChange fnExactTreeMiddleSpec)

/-- ITS FALSE NEIGHBOUR: 'it returns false'. Refute it at one input. -/
def fnExactTreeMiddleWrong : ChangeSpec := { name := "fnExactTreeMiddle", fn := fun _ => fun
  | [d] => { results := [.lit (.bool false)], args := [d] }
  | _ => none }
def FnExactTreeMiddleWrongFalsely : Prop := fnExactTreeMiddleRow.holds Tryd.pinned (OpenSpec.ofChange fnExactTreeMiddleWrong)

/-- 'laws.FnExactTreeWay': WHATEVER THE INPUT: true; the input reads as it did. -/
def fnExactTreeWaySpec : ChangeSpec := { name := "fnExactTreeWay", fn := fun _ => fun
  | [d1, d2, d3] => { results := [.lit (.bool true)], args := [d1, d2, d3] }
  | _ => none }
def fnExactTreeWayRow : OpenClaim := { program := "ytoipcdhofhpkfaadoor", sum := "29fc4e09bd8ed2eacb81e1b687d7b8af892dce2a67d57067d75905c8ed16e6ce", func := "loop.example/graphpieces/laws.FnExactTreeWay", spec := "fnExactTreeWay", unfollowed := true, recurses := true, named := ["math/bits.deBruijn32tab", "math/bits.deBruijn64tab"], apart := false, laid := [("math/bits.deBruijn32tab", laid_math_bits_deBruijn32tab), ("math/bits.deBruijn64tab", laid_math_bits_deBruijn64tab)] }
def FnExactTreeWaySaid : Prop := fnExactTreeWayRow.holds Tryd.pinned (OpenSpec.ofChange fnExactTreeWaySpec)

/-- ITS FALSE NEIGHBOUR: 'it returns false'. Refute it at one input. -/
def fnExactTreeWayWrong : ChangeSpec := { name := "fnExactTreeWay", fn := fun _ => fun
  | [d1, d2, d3] => { results := [.lit (.bool false)], args := [d1, d2, d3] }
  | _ => none }
def FnExactTreeWayWrongFalsely : Prop := fnExactTreeWayRow.holds Tryd.pinned (OpenSpec.ofChange fnExactTreeWayWrong)

/-- 'laws.FnExactTreeExchanges': WHATEVER THE INPUT: true; the input reads as it did. -/
def fnExactTreeExchangesSpec : ChangeSpec := { name := "fnExactTreeExchanges", fn := fun _ => fun
  | [d] => { results := [.lit (.bool true)], args := [d] }
  | _ => none }
def fnExactTreeExchangesRow : OpenClaim := { program := "ytoipcdhofhpkfaadoor", sum := "29fc4e09bd8ed2eacb81e1b687d7b8af892dce2a67d57067d75905c8ed16e6ce", func := "loop.example/graphpieces/laws.FnExactTreeExchanges", spec := "fnExactTreeExchanges", unfollowed := true, recurses := true, named := ["math/bits.deBruijn32tab", "math/bits.deBruijn64tab"], apart := false, laid := [("math/bits.deBruijn32tab", laid_math_bits_deBruijn32tab), ("math/bits.deBruijn64tab", laid_math_bits_deBruijn64tab)] }
def FnExactTreeExchangesSaid : Prop := fnExactTreeExchangesRow.holds Tryd.pinned (OpenSpec.ofChange fnExactTreeExchangesSpec)

/-- ITS FALSE NEIGHBOUR: 'it returns false'. Refute it at one input. -/
def fnExactTreeExchangesWrong : ChangeSpec := { name := "fnExactTreeExchanges", fn := fun _ => fun
  | [d] => { results := [.lit (.bool false)], args := [d] }
  | _ => none }
def FnExactTreeExchangesWrongFalsely : Prop := fnExactTreeExchangesRow.holds Tryd.pinned (OpenSpec.ofChange fnExactTreeExchangesWrong)

/-- 'laws.FnExactTreeFirst': WHATEVER THE INPUT: true; the input reads as it did. -/
def fnExactTreeFirstSpec : ChangeSpec := { name := "fnExactTreeFirst", fn := fun _ => fun
  | [d] => { results := [.lit (.bool true)], args := [d] }
  | _ => none }
def fnExactTreeFirstRow : OpenClaim := { program := "ytoipcdhofhpkfaadoor", sum := "29fc4e09bd8ed2eacb81e1b687d7b8af892dce2a67d57067d75905c8ed16e6ce", func := "loop.example/graphpieces/laws.FnExactTreeFirst", spec := "fnExactTreeFirst", unfollowed := true, recurses := true, named := ["math/bits.deBruijn32tab", "math/bits.deBruijn64tab"], apart := false, laid := [("math/bits.deBruijn32tab", laid_math_bits_deBruijn32tab), ("math/bits.deBruijn64tab", laid_math_bits_deBruijn64tab)] }
def FnExactTreeFirstSaid : Prop := fnExactTreeFirstRow.holds Tryd.pinned (OpenSpec.ofChange fnExactTreeFirstSpec)

/-- ITS FALSE NEIGHBOUR: 'it returns false'. Refute it at one input. -/
def fnExactTreeFirstWrong : ChangeSpec := { name := "fnExactTreeFirst", fn := fun _ => fun
  | [d] => { results := [.lit (.bool false)], args := [d] }
  | _ => none }
def FnExactTreeFirstWrongFalsely : Prop := fnExactTreeFirstRow.holds Tryd.pinned (OpenSpec.ofChange fnExactTreeFirstWrong)

/-- 'laws.FnExactTreeFar': WHATEVER THE INPUT: true; the input reads as it did. -/
def fnExactTreeFarSpec : ChangeSpec := { name := "fnExactTreeFar", fn := fun _ => fun
  | [d1, d2] => { results := [.lit (.bool true)], args := [d1, d2] }
  | _ => none }
def fnExactTreeFarRow : OpenClaim := { program := "ytoipcdhofhpkfaadoor", sum := "29fc4e09bd8ed2eacb81e1b687d7b8af892dce2a67d57067d75905c8ed16e6ce", func := "loop.example/graphpieces/laws.FnExactTreeFar", spec := "fnExactTreeFar", unfollowed := true, recurses := true, named := ["math/bits.deBruijn32tab", "math/bits.deBruijn64tab"], apart := false, laid := [("math/bits.deBruijn32tab", laid_math_bits_deBruijn32tab), ("math/bits.deBruijn64tab", laid_math_bits_deBruijn64tab)] }
def FnExactTreeFarSaid : Prop := fnExactTreeFarRow.holds Tryd.pinned (OpenSpec.ofChange fnExactTreeFarSpec)

/-- ITS FALSE NEIGHBOUR: 'it returns false'. Refute it at one input. -/
def fnExactTreeFarWrong : ChangeSpec := { name := "fnExactTreeFar", fn := fun _ => fun
  | [d1, d2] => { results := [.lit (.bool false)], args := [d1, d2] }
  | _ => none }
def FnExactTreeFarWrongFalsely : Prop := fnExactTreeFarRow.holds Tryd.pinned (OpenSpec.ofChange fnExactTreeFarWrong)

/- THE SECOND FORM. 'bulk': how many values and letters a reading holds, each counted each time it is reached (what is shared counts as often as it is met; a slice's spare places count too). A statement '..UptoSaid' is the law's where the arguments, and the package variables that the reading takes, are together of bulk at most 1048576: NARROWER than '..Said'. Prove '..Said' where nothing that the law and all that it calls make is longer than what came in: it says more and counts as full. Else prove '..UptoSaid'. A law counts once. -/
mutual
def uptoBulk {H : Type} : DataW H → Nat
  | .lit (.string bytes) => bytes.length + 1
  | .lit _ => 1
  | .nil => 1
  | .ptr d => uptoBulk d + 1
  | .slice elems spare => uptoBulkAll elems + uptoBulkAll spare + 1
  | .agg parts => uptoBulkAll parts + 1
  | .iface _ d => uptoBulk d + 1
  | .map entries => uptoBulkEntries entries + 1
  | .held _ => 1
def uptoBulkAll {H : Type} : List (DataW H) → Nat
  | [] => 0
  | d :: r => uptoBulk d + uptoBulkAll r
def uptoBulkEntries {H : Type} : List (Lit × DataW H) → Nat
  | [] => 0
  | x :: r => uptoBulkEntry x + uptoBulkEntries r
def uptoBulkEntry {H : Type} : Lit × DataW H → Nat
  | (.string bytes, d) => bytes.length + uptoBulk d + 1
  | (_, d) => uptoBulk d + 1
 end
def uptoSmall : (H : Type) → List (DataW H) → Bool := fun _ ds => decide (uptoBulkAll ds ≤ 1048576)
def OpenSpec.upto (s : _root_.Go.ChangeSpec) : _root_.Go.OpenSpec := { _root_.Go.OpenSpec.ofChange s with cond := some uptoSmall }

/-- 'laws.FnMiddle', WHERE WHAT IT READS IS OF BULK AT MOST 1048576: true; the input reads as it did. -/
def fnMiddleUptoRow : OpenClaim := { program := "ytoipcdhofhpkfaadoor", sum := "29fc4e09bd8ed2eacb81e1b687d7b8af892dce2a67d57067d75905c8ed16e6ce", func := "loop.example/graphpieces/laws.FnMiddle", spec := "fnMiddle", unfollowed := true, recurses := true, named := ["math/bits.deBruijn32tab", "math/bits.deBruijn64tab"], apart := false, laid := [("math/bits.deBruijn32tab", laid_math_bits_deBruijn32tab), ("math/bits.deBruijn64tab", laid_math_bits_deBruijn64tab)], narrowed := true }
def FnMiddleUptoSaid : Prop := fnMiddleUptoRow.holds Tryd.pinned (OpenSpec.upto fnMiddleSpec)

/-- 'laws.FnExactTreeIn', WHERE WHAT IT READS IS OF BULK AT MOST 1048576: true; the input reads as it did. -/
def fnExactTreeInUptoRow : OpenClaim := { program := "ytoipcdhofhpkfaadoor", sum := "29fc4e09bd8ed2eacb81e1b687d7b8af892dce2a67d57067d75905c8ed16e6ce", func := "loop.example/graphpieces/laws.FnExactTreeIn", spec := "fnExactTreeIn", unfollowed := true, recurses := true, named := ["math/bits.deBruijn32tab", "math/bits.deBruijn64tab"], apart := false, laid := [("math/bits.deBruijn32tab", laid_math_bits_deBruijn32tab), ("math/bits.deBruijn64tab", laid_math_bits_deBruijn64tab)], narrowed := true }
def FnExactTreeInUptoSaid : Prop := fnExactTreeInUptoRow.holds Tryd.pinned (OpenSpec.upto fnExactTreeInSpec)

/-- 'laws.FnExactTreeLetters', WHERE WHAT IT READS IS OF BULK AT MOST 1048576: true; the input reads as it did. -/
def fnExactTreeLettersUptoRow : OpenClaim := { program := "ytoipcdhofhpkfaadoor", sum := "29fc4e09bd8ed2eacb81e1b687d7b8af892dce2a67d57067d75905c8ed16e6ce", func := "loop.example/graphpieces/laws.FnExactTreeLetters", spec := "fnExactTreeLetters", unfollowed := true, recurses := true, named := ["math/bits.deBruijn32tab", "math/bits.deBruijn64tab"], apart := false, laid := [("math/bits.deBruijn32tab", laid_math_bits_deBruijn32tab), ("math/bits.deBruijn64tab", laid_math_bits_deBruijn64tab)], narrowed := true }
def FnExactTreeLettersUptoSaid : Prop := fnExactTreeLettersUptoRow.holds Tryd.pinned (OpenSpec.upto fnExactTreeLettersSpec)

/-- 'laws.FnExactTreeFrom', WHERE WHAT IT READS IS OF BULK AT MOST 1048576: true; the input reads as it did. -/
def fnExactTreeFromUptoRow : OpenClaim := { program := "ytoipcdhofhpkfaadoor", sum := "29fc4e09bd8ed2eacb81e1b687d7b8af892dce2a67d57067d75905c8ed16e6ce", func := "loop.example/graphpieces/laws.FnExactTreeFrom", spec := "fnExactTreeFrom", unfollowed := true, recurses := true, named := ["math/bits.deBruijn32tab", "math/bits.deBruijn64tab"], apart := false, laid := [("math/bits.deBruijn32tab", laid_math_bits_deBruijn32tab), ("math/bits.deBruijn64tab", laid_math_bits_deBruijn64tab)], narrowed := true }
def FnExactTreeFromUptoSaid : Prop := fnExactTreeFromUptoRow.holds Tryd.pinned (OpenSpec.upto fnExactTreeFromSpec)

/-- 'laws.FnExactTreeMiddle', WHERE WHAT IT READS IS OF BULK AT MOST 1048576: true; the input reads as it did. -/
def fnExactTreeMiddleUptoRow : OpenClaim := { program := "ytoipcdhofhpkfaadoor", sum := "29fc4e09bd8ed2eacb81e1b687d7b8af892dce2a67d57067d75905c8ed16e6ce", func := "loop.example/graphpieces/laws.FnExactTreeMiddle", spec := "fnExactTreeMiddle", unfollowed := true, recurses := true, named := ["math/bits.deBruijn32tab", "math/bits.deBruijn64tab"], apart := false, laid := [("math/bits.deBruijn32tab", laid_math_bits_deBruijn32tab), ("math/bits.deBruijn64tab", laid_math_bits_deBruijn64tab)], narrowed := true }
def FnExactTreeMiddleUptoSaid : Prop := fnExactTreeMiddleUptoRow.holds Tryd.pinned (OpenSpec.upto fnExactTreeMiddleSpec)

/-- 'laws.FnExactTreeWay', WHERE WHAT IT READS IS OF BULK AT MOST 1048576: true; the input reads as it did. -/
def fnExactTreeWayUptoRow : OpenClaim := { program := "ytoipcdhofhpkfaadoor", sum := "29fc4e09bd8ed2eacb81e1b687d7b8af892dce2a67d57067d75905c8ed16e6ce", func := "loop.example/graphpieces/laws.FnExactTreeWay", spec := "fnExactTreeWay", unfollowed := true, recurses := true, named := ["math/bits.deBruijn32tab", "math/bits.deBruijn64tab"], apart := false, laid := [("math/bits.deBruijn32tab", laid_math_bits_deBruijn32tab), ("math/bits.deBruijn64tab", laid_math_bits_deBruijn64tab)], narrowed := true }
def FnExactTreeWayUptoSaid : Prop := fnExactTreeWayUptoRow.holds Tryd.pinned (OpenSpec.upto fnExactTreeWaySpec)

/-- 'laws.FnExactTreeExchanges', WHERE WHAT IT READS IS OF BULK AT MOST 1048576: true; the input reads as it did. -/
def fnExactTreeExchangesUptoRow : OpenClaim := { program := "ytoipcdhofhpkfaadoor", sum := "29fc4e09bd8ed2eacb81e1b687d7b8af892dce2a67d57067d75905c8ed16e6ce", func := "loop.example/graphpieces/laws.FnExactTreeExchanges", spec := "fnExactTreeExchanges", unfollowed := true, recurses := true, named := ["math/bits.deBruijn32tab", "math/bits.deBruijn64tab"], apart := false, laid := [("math/bits.deBruijn32tab", laid_math_bits_deBruijn32tab), ("math/bits.deBruijn64tab", laid_math_bits_deBruijn64tab)], narrowed := true }
def FnExactTreeExchangesUptoSaid : Prop := fnExactTreeExchangesUptoRow.holds Tryd.pinned (OpenSpec.upto fnExactTreeExchangesSpec)

/-- 'laws.FnExactTreeFirst', WHERE WHAT IT READS IS OF BULK AT MOST 1048576: true; the input reads as it did. -/
def fnExactTreeFirstUptoRow : OpenClaim := { program := "ytoipcdhofhpkfaadoor", sum := "29fc4e09bd8ed2eacb81e1b687d7b8af892dce2a67d57067d75905c8ed16e6ce", func := "loop.example/graphpieces/laws.FnExactTreeFirst", spec := "fnExactTreeFirst", unfollowed := true, recurses := true, named := ["math/bits.deBruijn32tab", "math/bits.deBruijn64tab"], apart := false, laid := [("math/bits.deBruijn32tab", laid_math_bits_deBruijn32tab), ("math/bits.deBruijn64tab", laid_math_bits_deBruijn64tab)], narrowed := true }
def FnExactTreeFirstUptoSaid : Prop := fnExactTreeFirstUptoRow.holds Tryd.pinned (OpenSpec.upto fnExactTreeFirstSpec)

/-- 'laws.FnExactTreeFar', WHERE WHAT IT READS IS OF BULK AT MOST 1048576: true; the input reads as it did. -/
def fnExactTreeFarUptoRow : OpenClaim := { program := "ytoipcdhofhpkfaadoor", sum := "29fc4e09bd8ed2eacb81e1b687d7b8af892dce2a67d57067d75905c8ed16e6ce", func := "loop.example/graphpieces/laws.FnExactTreeFar", spec := "fnExactTreeFar", unfollowed := true, recurses := true, named := ["math/bits.deBruijn32tab", "math/bits.deBruijn64tab"], apart := false, laid := [("math/bits.deBruijn32tab", laid_math_bits_deBruijn32tab), ("math/bits.deBruijn64tab", laid_math_bits_deBruijn64tab)], narrowed := true }
def FnExactTreeFarUptoSaid : Prop := fnExactTreeFarUptoRow.holds Tryd.pinned (OpenSpec.upto fnExactTreeFarSpec)

end Rows
end Go.Proofs.YtoipcdhofhpkfaaDoor
