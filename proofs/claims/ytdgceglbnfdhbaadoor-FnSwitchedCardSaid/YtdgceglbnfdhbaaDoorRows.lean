/-
  NARROWER THAN 'FOR EVERY INPUT', by the rows' own cells (each row's printed sentence says how): FnExactNearLeast: laid · FnExactNearNames: laid · FnExactNearSwitched: laid · FnExactNearSwitchLeast: laid · FnExactNearTwins: laid · FnExactNearNone: laid · FnSwitched: laid.
  DERIVED. THE GIVEN ROWS OF THIS SEAT. 7 by the template 'for every input the law returns true; each argument reads behind the call as it read before'; 0 by the template 'total and deterministic' (their statements: YtdgceglbnfdhbaaDoorTotals.lean).
  GIVEN WITH THE SEED: the statements are not yours to turn. If you find one false, say at which input.
  Laid BY PROGRAM, IN A SANDBOX (cutbox-rows.mjs): the forced cells as the released guide's own fill.sh prints them over the translation 3cbda669a292ff8b… (all of the seat's roots in one cut). By AI agents, Wed Nov 11 2026. No macro, syntax, notation, axiom, sorry.
-/
import Derived.Test.YtdgceglbnfdhbaaDoorChecked
import GoSem.Claim
import GoSem.ClaimJoined
import GoSem.ClaimMapViews
import Derived.JoinedTies
import Derived.KernelRfl
namespace Go.Proofs.YtdgceglbnfdhbaaDoor
/- THE CELL 'sum', in the pinned program and in every row, IS THE sha256 OF THE DUMP (.gsa) THAT YtdgceglbnfdhbaaDoorProg.lean LOADS. Nothing in Lean hashes anything: it is a label: what it is worth is what the hold of that sum in a sandbox is worth. -/
noncomputable def Tryd.pinned : Pinned := { name := "ytdgceglbnfdhbaadoor", sum := "3cbda669a292ff8bb179f5b8940a79d18aed2a299f2d40ca9d017acc73bf9e9b", checked := Tryd.checked }
namespace Rows
def none {H : Type} : Left H := { results := [], args := [] }

/- WHAT THE LISTED PACKAGE-LEVEL VARIABLES READ AS WHEN THE CALL BEGINS. Each datum BY PROGRAM (the guide's laid-datum.mjs) off the statement by which the dump's own 'gosem.cut.vars' lays the variable. In a bare row this is a premise. The card (YtdgceglbnfdhbaaDoorCards.lean) ties it to the program's text. -/
def laid_math_bits_deBruijn32tab {H : Type} : DataW H := .agg [.lit (.int .u8 0), .lit (.int .u8 1), .lit (.int .u8 28), .lit (.int .u8 2), .lit (.int .u8 29), .lit (.int .u8 14), .lit (.int .u8 24), .lit (.int .u8 3), .lit (.int .u8 30), .lit (.int .u8 22), .lit (.int .u8 20), .lit (.int .u8 15), .lit (.int .u8 25), .lit (.int .u8 17), .lit (.int .u8 4), .lit (.int .u8 8), .lit (.int .u8 31), .lit (.int .u8 27), .lit (.int .u8 13), .lit (.int .u8 23), .lit (.int .u8 21), .lit (.int .u8 19), .lit (.int .u8 16), .lit (.int .u8 7), .lit (.int .u8 26), .lit (.int .u8 12), .lit (.int .u8 18), .lit (.int .u8 6), .lit (.int .u8 11), .lit (.int .u8 5), .lit (.int .u8 10), .lit (.int .u8 9)]
def laid_math_bits_deBruijn64tab {H : Type} : DataW H := .agg [.lit (.int .u8 0), .lit (.int .u8 1), .lit (.int .u8 56), .lit (.int .u8 2), .lit (.int .u8 57), .lit (.int .u8 49), .lit (.int .u8 28), .lit (.int .u8 3), .lit (.int .u8 61), .lit (.int .u8 58), .lit (.int .u8 42), .lit (.int .u8 50), .lit (.int .u8 38), .lit (.int .u8 29), .lit (.int .u8 17), .lit (.int .u8 4), .lit (.int .u8 62), .lit (.int .u8 47), .lit (.int .u8 59), .lit (.int .u8 36), .lit (.int .u8 45), .lit (.int .u8 43), .lit (.int .u8 51), .lit (.int .u8 22), .lit (.int .u8 53), .lit (.int .u8 39), .lit (.int .u8 33), .lit (.int .u8 30), .lit (.int .u8 24), .lit (.int .u8 18), .lit (.int .u8 12), .lit (.int .u8 5), .lit (.int .u8 63), .lit (.int .u8 55), .lit (.int .u8 48), .lit (.int .u8 27), .lit (.int .u8 60), .lit (.int .u8 41), .lit (.int .u8 37), .lit (.int .u8 16), .lit (.int .u8 46), .lit (.int .u8 35), .lit (.int .u8 44), .lit (.int .u8 21), .lit (.int .u8 52), .lit (.int .u8 32), .lit (.int .u8 23), .lit (.int .u8 11), .lit (.int .u8 54), .lit (.int .u8 26), .lit (.int .u8 40), .lit (.int .u8 15), .lit (.int .u8 34), .lit (.int .u8 20), .lit (.int .u8 31), .lit (.int .u8 10), .lit (.int .u8 25), .lit (.int .u8 14), .lit (.int .u8 19), .lit (.int .u8 9), .lit (.int .u8 13), .lit (.int .u8 8), .lit (.int .u8 7), .lit (.int .u8 6)]

/-- 'laws.FnExactNearLeast': WHATEVER THE INPUT: true; the input reads as it did. -/
def fnExactNearLeastSpec : ChangeSpec := { name := "fnExactNearLeast", fn := fun _ => fun
  | [d1, d2] => { results := [.lit (.bool true)], args := [d1, d2] }
  | _ => none }
def fnExactNearLeastRow : OpenClaim := { program := "ytdgceglbnfdhbaadoor", sum := "3cbda669a292ff8bb179f5b8940a79d18aed2a299f2d40ca9d017acc73bf9e9b", func := "loop.example/graphpieces/laws.FnExactNearLeast", spec := "fnExactNearLeast", unfollowed := true, recurses := true, named := ["math/bits.deBruijn32tab", "math/bits.deBruijn64tab"], apart := false, laid := [("math/bits.deBruijn32tab", laid_math_bits_deBruijn32tab), ("math/bits.deBruijn64tab", laid_math_bits_deBruijn64tab)] }
def FnExactNearLeastSaid : Prop := fnExactNearLeastRow.holds Tryd.pinned (OpenSpec.ofChange fnExactNearLeastSpec)

/-- ITS FALSE NEIGHBOUR: 'it returns false'. Refute it at one input. -/
def fnExactNearLeastWrong : ChangeSpec := { name := "fnExactNearLeast", fn := fun _ => fun
  | [d1, d2] => { results := [.lit (.bool false)], args := [d1, d2] }
  | _ => none }
def FnExactNearLeastWrongFalsely : Prop := fnExactNearLeastRow.holds Tryd.pinned (OpenSpec.ofChange fnExactNearLeastWrong)

/-- 'laws.FnExactNearNames': WHATEVER THE INPUT: true; the input reads as it did. -/
def fnExactNearNamesSpec : ChangeSpec := { name := "fnExactNearNames", fn := fun _ => fun
  | [d1, d2] => { results := [.lit (.bool true)], args := [d1, d2] }
  | _ => none }
def fnExactNearNamesRow : OpenClaim := { program := "ytdgceglbnfdhbaadoor", sum := "3cbda669a292ff8bb179f5b8940a79d18aed2a299f2d40ca9d017acc73bf9e9b", func := "loop.example/graphpieces/laws.FnExactNearNames", spec := "fnExactNearNames", unfollowed := true, recurses := true, named := ["math/bits.deBruijn32tab", "math/bits.deBruijn64tab"], apart := false, laid := [("math/bits.deBruijn32tab", laid_math_bits_deBruijn32tab), ("math/bits.deBruijn64tab", laid_math_bits_deBruijn64tab)] }
def FnExactNearNamesSaid : Prop := fnExactNearNamesRow.holds Tryd.pinned (OpenSpec.ofChange fnExactNearNamesSpec)

/-- ITS FALSE NEIGHBOUR: 'it returns false'. Refute it at one input. -/
def fnExactNearNamesWrong : ChangeSpec := { name := "fnExactNearNames", fn := fun _ => fun
  | [d1, d2] => { results := [.lit (.bool false)], args := [d1, d2] }
  | _ => none }
def FnExactNearNamesWrongFalsely : Prop := fnExactNearNamesRow.holds Tryd.pinned (OpenSpec.ofChange fnExactNearNamesWrong)

/-- 'laws.FnExactNearSwitched': WHATEVER THE INPUT: true; the input reads as it did. -/
def fnExactNearSwitchedSpec : ChangeSpec := { name := "fnExactNearSwitched", fn := fun _ => fun
  | [d1, d2] => { results := [.lit (.bool true)], args := [d1, d2] }
  | _ => none }
def fnExactNearSwitchedRow : OpenClaim := { program := "ytdgceglbnfdhbaadoor", sum := "3cbda669a292ff8bb179f5b8940a79d18aed2a299f2d40ca9d017acc73bf9e9b", func := "loop.example/graphpieces/laws.FnExactNearSwitched", spec := "fnExactNearSwitched", unfollowed := true, recurses := true, named := ["math/bits.deBruijn32tab", "math/bits.deBruijn64tab"], apart := false, laid := [("math/bits.deBruijn32tab", laid_math_bits_deBruijn32tab), ("math/bits.deBruijn64tab", laid_math_bits_deBruijn64tab)] }
def FnExactNearSwitchedSaid : Prop := fnExactNearSwitchedRow.holds Tryd.pinned (OpenSpec.ofChange fnExactNearSwitchedSpec)

/-- ITS FALSE NEIGHBOUR: 'it returns false'. Refute it at one input. -/
def fnExactNearSwitchedWrong : ChangeSpec := { name := "fnExactNearSwitched", fn := fun _ => fun
  | [d1, d2] => { results := [.lit (.bool false)], args := [d1, d2] }
  | _ => none }
def FnExactNearSwitchedWrongFalsely : Prop := fnExactNearSwitchedRow.holds Tryd.pinned (OpenSpec.ofChange fnExactNearSwitchedWrong)

/-- 'laws.FnExactNearSwitchLeast': WHATEVER THE INPUT: true; the input reads as it did. -/
def fnExactNearSwitchLeastSpec : ChangeSpec := { name := "fnExactNearSwitchLeast", fn := fun _ => fun
  | [d] => { results := [.lit (.bool true)], args := [d] }
  | _ => none }
def fnExactNearSwitchLeastRow : OpenClaim := { program := "ytdgceglbnfdhbaadoor", sum := "3cbda669a292ff8bb179f5b8940a79d18aed2a299f2d40ca9d017acc73bf9e9b", func := "loop.example/graphpieces/laws.FnExactNearSwitchLeast", spec := "fnExactNearSwitchLeast", unfollowed := true, recurses := true, named := ["math/bits.deBruijn32tab", "math/bits.deBruijn64tab"], apart := false, laid := [("math/bits.deBruijn32tab", laid_math_bits_deBruijn32tab), ("math/bits.deBruijn64tab", laid_math_bits_deBruijn64tab)] }
def FnExactNearSwitchLeastSaid : Prop := fnExactNearSwitchLeastRow.holds Tryd.pinned (OpenSpec.ofChange fnExactNearSwitchLeastSpec)

/-- ITS FALSE NEIGHBOUR: 'it returns false'. Refute it at one input. -/
def fnExactNearSwitchLeastWrong : ChangeSpec := { name := "fnExactNearSwitchLeast", fn := fun _ => fun
  | [d] => { results := [.lit (.bool false)], args := [d] }
  | _ => none }
def FnExactNearSwitchLeastWrongFalsely : Prop := fnExactNearSwitchLeastRow.holds Tryd.pinned (OpenSpec.ofChange fnExactNearSwitchLeastWrong)

/-- 'laws.FnExactNearTwins': WHATEVER THE INPUT: true; the input reads as it did. -/
def fnExactNearTwinsSpec : ChangeSpec := { name := "fnExactNearTwins", fn := fun _ => fun
  | [d] => { results := [.lit (.bool true)], args := [d] }
  | _ => none }
def fnExactNearTwinsRow : OpenClaim := { program := "ytdgceglbnfdhbaadoor", sum := "3cbda669a292ff8bb179f5b8940a79d18aed2a299f2d40ca9d017acc73bf9e9b", func := "loop.example/graphpieces/laws.FnExactNearTwins", spec := "fnExactNearTwins", unfollowed := true, recurses := true, named := ["math/bits.deBruijn32tab", "math/bits.deBruijn64tab"], apart := false, laid := [("math/bits.deBruijn32tab", laid_math_bits_deBruijn32tab), ("math/bits.deBruijn64tab", laid_math_bits_deBruijn64tab)] }
def FnExactNearTwinsSaid : Prop := fnExactNearTwinsRow.holds Tryd.pinned (OpenSpec.ofChange fnExactNearTwinsSpec)

/-- ITS FALSE NEIGHBOUR: 'it returns false'. Refute it at one input. -/
def fnExactNearTwinsWrong : ChangeSpec := { name := "fnExactNearTwins", fn := fun _ => fun
  | [d] => { results := [.lit (.bool false)], args := [d] }
  | _ => none }
def FnExactNearTwinsWrongFalsely : Prop := fnExactNearTwinsRow.holds Tryd.pinned (OpenSpec.ofChange fnExactNearTwinsWrong)

/-- 'laws.FnExactNearNone': WHATEVER THE INPUT: true; the input reads as it did. -/
def fnExactNearNoneSpec : ChangeSpec := { name := "fnExactNearNone", fn := fun _ => fun
  | [d] => { results := [.lit (.bool true)], args := [d] }
  | _ => none }
def fnExactNearNoneRow : OpenClaim := { program := "ytdgceglbnfdhbaadoor", sum := "3cbda669a292ff8bb179f5b8940a79d18aed2a299f2d40ca9d017acc73bf9e9b", func := "loop.example/graphpieces/laws.FnExactNearNone", spec := "fnExactNearNone", unfollowed := true, recurses := true, named := ["math/bits.deBruijn32tab", "math/bits.deBruijn64tab"], apart := false, laid := [("math/bits.deBruijn32tab", laid_math_bits_deBruijn32tab), ("math/bits.deBruijn64tab", laid_math_bits_deBruijn64tab)] }
def FnExactNearNoneSaid : Prop := fnExactNearNoneRow.holds Tryd.pinned (OpenSpec.ofChange fnExactNearNoneSpec)

/-- ITS FALSE NEIGHBOUR: 'it returns false'. Refute it at one input. -/
def fnExactNearNoneWrong : ChangeSpec := { name := "fnExactNearNone", fn := fun _ => fun
  | [d] => { results := [.lit (.bool false)], args := [d] }
  | _ => none }
def FnExactNearNoneWrongFalsely : Prop := fnExactNearNoneRow.holds Tryd.pinned (OpenSpec.ofChange fnExactNearNoneWrong)

/-- 'laws.FnSwitched': WHATEVER THE INPUT: true; the input reads as it did. -/
def fnSwitchedSpec : ChangeSpec := { name := "fnSwitched", fn := fun _ => fun
  | [d] => { results := [.lit (.bool true)], args := [d] }
  | _ => none }
def fnSwitchedRow : OpenClaim := { program := "ytdgceglbnfdhbaadoor", sum := "3cbda669a292ff8bb179f5b8940a79d18aed2a299f2d40ca9d017acc73bf9e9b", func := "loop.example/graphpieces/laws.FnSwitched", spec := "fnSwitched", unfollowed := true, recurses := true, named := ["math/bits.deBruijn32tab", "math/bits.deBruijn64tab"], apart := false, laid := [("math/bits.deBruijn32tab", laid_math_bits_deBruijn32tab), ("math/bits.deBruijn64tab", laid_math_bits_deBruijn64tab)] }
def FnSwitchedSaid : Prop := fnSwitchedRow.holds Tryd.pinned (OpenSpec.ofChange fnSwitchedSpec)

/-- ITS FALSE NEIGHBOUR: 'it returns false'. Refute it at one input. -/
def fnSwitchedWrong : ChangeSpec := { name := "fnSwitched", fn := fun _ => fun
  | [d] => { results := [.lit (.bool false)], args := [d] }
  | _ => none }
def FnSwitchedWrongFalsely : Prop := fnSwitchedRow.holds Tryd.pinned (OpenSpec.ofChange fnSwitchedWrong)

/- THE SECOND FORM. 'bulk': how many values and letters a reading holds, each counted each time it is reached (what is shared counts as often as it is met; a slice's spare places count too). A statement '..UptoSaid' is the law's where the arguments, and the package variables that the reading takes, are together of bulk at most 1048576: NARROWER than '..Said'. Prove '..Said' where nothing that the law and all that it calls make is longer than what came in: it says more and counts as full. Else prove '..UptoSaid'. A law counts once. -/
mutual
def uptoBulk {H : Type} : DataW H → Nat
  | .lit (.string bytes) => bytes.length + 1
  | .lit _ => 1
  | .nil => 1
  | .ptr d => uptoBulk d + 1
  | .slice elems spare => uptoBulkAll elems + uptoBulkAll spare + 1
  | .agg parts => uptoBulkAll parts + 1
  | .iface _ d => uptoBulk d + 1
  | .map entries => uptoBulkEntries entries + 1
  | .held _ => 1
def uptoBulkAll {H : Type} : List (DataW H) → Nat
  | [] => 0
  | d :: r => uptoBulk d + uptoBulkAll r
def uptoBulkEntries {H : Type} : List (Lit × DataW H) → Nat
  | [] => 0
  | x :: r => uptoBulkEntry x + uptoBulkEntries r
def uptoBulkEntry {H : Type} : Lit × DataW H → Nat
  | (.string bytes, d) => bytes.length + uptoBulk d + 1
  | (_, d) => uptoBulk d + 1
 end
def uptoSmall : (H : Type) → List (DataW H) → Bool := fun _ ds => decide (uptoBulkAll ds ≤ 1048576)
def OpenSpec.upto (s : _root_.Go.ChangeSpec) : _root_.Go.OpenSpec := { _root_.Go.OpenSpec.ofChange s with cond := some uptoSmall }

/-- 'laws.FnExactNearLeast', WHERE WHAT IT READS IS OF BULK AT MOST 1048576: true; the input reads as it did. -/
def fnExactNearLeastUptoRow : OpenClaim := { program := "ytdgceglbnfdhbaadoor", sum := "3cbda669a292ff8bb179f5b8940a79d18aed2a299f2d40ca9d017acc73bf9e9b", func := "loop.example/graphpieces/laws.FnExactNearLeast", spec := "fnExactNearLeast", unfollowed := true, recurses := true, named := ["math/bits.deBruijn32tab", "math/bits.deBruijn64tab"], apart := false, laid := [("math/bits.deBruijn32tab", laid_math_bits_deBruijn32tab), ("math/bits.deBruijn64tab", laid_math_bits_deBruijn64tab)], narrowed := true }
def FnExactNearLeastUptoSaid : Prop := fnExactNearLeastUptoRow.holds Tryd.pinned (OpenSpec.upto fnExactNearLeastSpec)

/-- 'laws.FnExactNearNames', WHERE WHAT IT READS IS OF BULK AT MOST 1048576: true; the input reads as it did. -/
def fnExactNearNamesUptoRow : OpenClaim := { program := "ytdgceglbnfdhbaadoor", sum := "3cbda669a292ff8bb179f5b8940a79d18aed2a299f2d40ca9d017acc73bf9e9b", func := "loop.example/graphpieces/laws.FnExactNearNames", spec := "fnExactNearNames", unfollowed := true, recurses := true, named := ["math/bits.deBruijn32tab", "math/bits.deBruijn64tab"], apart := false, laid := [("math/bits.deBruijn32tab", laid_math_bits_deBruijn32tab), ("math/bits.deBruijn64tab", laid_math_bits_deBruijn64tab)], narrowed := true }
def FnExactNearNamesUptoSaid : Prop := fnExactNearNamesUptoRow.holds Tryd.pinned (OpenSpec.upto fnExactNearNamesSpec)

/-- 'laws.FnExactNearSwitched', WHERE WHAT IT READS IS OF BULK AT MOST 1048576: true; the input reads as it did. -/
def fnExactNearSwitchedUptoRow : OpenClaim := { program := "ytdgceglbnfdhbaadoor", sum := "3cbda669a292ff8bb179f5b8940a79d18aed2a299f2d40ca9d017acc73bf9e9b", func := "loop.example/graphpieces/laws.FnExactNearSwitched", spec := "fnExactNearSwitched", unfollowed := true, recurses := true, named := ["math/bits.deBruijn32tab", "math/bits.deBruijn64tab"], apart := false, laid := [("math/bits.deBruijn32tab", laid_math_bits_deBruijn32tab), ("math/bits.deBruijn64tab", laid_math_bits_deBruijn64tab)], narrowed := true }
def FnExactNearSwitchedUptoSaid : Prop := fnExactNearSwitchedUptoRow.holds Tryd.pinned (OpenSpec.upto fnExactNearSwitchedSpec)

/-- 'laws.FnExactNearSwitchLeast', WHERE WHAT IT READS IS OF BULK AT MOST 1048576: true; the input reads as it did. -/
def fnExactNearSwitchLeastUptoRow : OpenClaim := { program := "ytdgceglbnfdhbaadoor", sum := "3cbda669a292ff8bb179f5b8940a79d18aed2a299f2d40ca9d017acc73bf9e9b", func := "loop.example/graphpieces/laws.FnExactNearSwitchLeast", spec := "fnExactNearSwitchLeast", unfollowed := true, recurses := true, named := ["math/bits.deBruijn32tab", "math/bits.deBruijn64tab"], apart := false, laid := [("math/bits.deBruijn32tab", laid_math_bits_deBruijn32tab), ("math/bits.deBruijn64tab", laid_math_bits_deBruijn64tab)], narrowed := true }
def FnExactNearSwitchLeastUptoSaid : Prop := fnExactNearSwitchLeastUptoRow.holds Tryd.pinned (OpenSpec.upto fnExactNearSwitchLeastSpec)

/-- 'laws.FnExactNearTwins', WHERE WHAT IT READS IS OF BULK AT MOST 1048576: true; the input reads as it did. -/
def fnExactNearTwinsUptoRow : OpenClaim := { program := "ytdgceglbnfdhbaadoor", sum := "3cbda669a292ff8bb179f5b8940a79d18aed2a299f2d40ca9d017acc73bf9e9b", func := "loop.example/graphpieces/laws.FnExactNearTwins", spec := "fnExactNearTwins", unfollowed := true, recurses := true, named := ["math/bits.deBruijn32tab", "math/bits.deBruijn64tab"], apart := false, laid := [("math/bits.deBruijn32tab", laid_math_bits_deBruijn32tab), ("math/bits.deBruijn64tab", laid_math_bits_deBruijn64tab)], narrowed := true }
def FnExactNearTwinsUptoSaid : Prop := fnExactNearTwinsUptoRow.holds Tryd.pinned (OpenSpec.upto fnExactNearTwinsSpec)

/-- 'laws.FnExactNearNone', WHERE WHAT IT READS IS OF BULK AT MOST 1048576: true; the input reads as it did. -/
def fnExactNearNoneUptoRow : OpenClaim := { program := "ytdgceglbnfdhbaadoor", sum := "3cbda669a292ff8bb179f5b8940a79d18aed2a299f2d40ca9d017acc73bf9e9b", func := "loop.example/graphpieces/laws.FnExactNearNone", spec := "fnExactNearNone", unfollowed := true, recurses := true, named := ["math/bits.deBruijn32tab", "math/bits.deBruijn64tab"], apart := false, laid := [("math/bits.deBruijn32tab", laid_math_bits_deBruijn32tab), ("math/bits.deBruijn64tab", laid_math_bits_deBruijn64tab)], narrowed := true }
def FnExactNearNoneUptoSaid : Prop := fnExactNearNoneUptoRow.holds Tryd.pinned (OpenSpec.upto fnExactNearNoneSpec)

/-- 'laws.FnSwitched', WHERE WHAT IT READS IS OF BULK AT MOST 1048576: true; the input reads as it did. -/
def fnSwitchedUptoRow : OpenClaim := { program := "ytdgceglbnfdhbaadoor", sum := "3cbda669a292ff8bb179f5b8940a79d18aed2a299f2d40ca9d017acc73bf9e9b", func := "loop.example/graphpieces/laws.FnSwitched", spec := "fnSwitched", unfollowed := true, recurses := true, named := ["math/bits.deBruijn32tab", "math/bits.deBruijn64tab"], apart := false, laid := [("math/bits.deBruijn32tab", laid_math_bits_deBruijn32tab), ("math/bits.deBruijn64tab", laid_math_bits_deBruijn64tab)], narrowed := true }
def FnSwitchedUptoSaid : Prop := fnSwitchedUptoRow.holds Tryd.pinned (OpenSpec.upto fnSwitchedSpec)

end Rows
end Go.Proofs.YtdgceglbnfdhbaaDoor
