/-
  NARROWER THAN 'FOR EVERY INPUT', by the rows' own cells (each row's printed sentence says how): FnExactAlikeFirst: laid · FnExactAlikeLeast: laid · FnExactAlikeSame: laid · FnExactAlikeOrbits: laid · FnExactAlikeAll: laid · FnExactAlikeMany: laid · FnExactAlikeOwn: laid.
  DERIVED. THE GIVEN ROWS OF THIS SEAT. 7 by the template 'for every input the law returns true; each argument reads behind the call as it read before'; 0 by the template 'total and deterministic' (their statements: YtedjnenbmhajiaaDoorTotals.lean).
  GIVEN WITH THE SEED: the statements are not yours to turn. If you find one false, say at which input.
  Laid BY PROGRAM, IN A SANDBOX (cutbox-rows.mjs): the forced cells as the released guide's own fill.sh prints them over the translation 40b0accd97d460fc… (all of the seat's roots in one cut). By AI agents, Wed Nov 11 2026. No macro, syntax, notation, axiom, sorry.
-/
import Derived.Test.YtedjnenbmhajiaaDoorChecked
import GoSem.Claim
import GoSem.ClaimJoined
import GoSem.ClaimMapViews
import Derived.JoinedTies
import Derived.KernelRfl
namespace Go.Proofs.YtedjnenbmhajiaaDoor
/- THE CELL 'sum', in the pinned program and in every row, IS THE sha256 OF THE DUMP (.gsa) THAT YtedjnenbmhajiaaDoorProg.lean LOADS. Nothing in Lean hashes anything: it is a label: what it is worth is what the hold of that sum in a sandbox is worth. -/
noncomputable def Tryd.pinned : Pinned := { name := "ytedjnenbmhajiaadoor", sum := "40b0accd97d460fc0971b0369cc74e73fab1be41965cecef885ce7b6b0661bfa", checked := Tryd.checked }
namespace Rows
def none {H : Type} : Left H := { results := [], args := [] }

/- WHAT THE LISTED PACKAGE-LEVEL VARIABLES READ AS WHEN THE CALL BEGINS. Each datum BY PROGRAM (the guide's laid-datum.mjs) off the statement by which the dump's own 'gosem.cut.vars' lays the variable. In a bare row this is a premise. The card (YtedjnenbmhajiaaDoorCards.lean) ties it to the program's text. -/
def laid_math_bits_deBruijn32tab {H : Type} : DataW H := .agg [.lit (.int .u8 0), .lit (.int .u8 1), .lit (.int .u8 28), .lit (.int .u8 2), .lit (.int .u8 29), .lit (.int .u8 14), .lit (.int .u8 24), .lit (.int .u8 3), .lit (.int .u8 30), .lit (.int .u8 22), .lit (.int .u8 20), .lit (.int .u8 15), .lit (.int .u8 25), .lit (.int .u8 17), .lit (.int .u8 4), .lit (.int .u8 8), .lit (.int .u8 31), .lit (.int .u8 27), .lit (.int .u8 13), .lit (.int .u8 23), .lit (.int .u8 21), .lit (.int .u8 19), .lit (.int .u8 16), .lit (.int .u8 7), .lit (.int .u8 26), .lit (.int .u8 12), .lit (.int .u8 18), .lit (.int .u8 6), .lit (.int .u8 11), .lit (.int .u8 5), .lit (.int .u8 10), .lit (.int .u8 9)]
def laid_math_bits_deBruijn64tab {H : Type} : DataW H := .agg [.lit (.int .u8 0), .lit (.int .u8 1), .lit (.int .u8 56), .lit (.int .u8 2), .lit (.int .u8 57), .lit (.int .u8 49), .lit (.int .u8 28), .lit (.int .u8 3), .lit (.int .u8 61), .lit (.int .u8 58), .lit (.int .u8 42), .lit (.int .u8 50), .lit (.int .u8 38), .lit (.int .u8 29), .lit (.int .u8 17), .lit (.int .u8 4), .lit (.int .u8 62), .lit (.int .u8 47), .lit (.int .u8 59), .lit (.int .u8 36), .lit (.int .u8 45), .lit (.int .u8 43), .lit (.int .u8 51), .lit (.int .u8 22), .lit (.int .u8 53), .lit (.int .u8 39), .lit (.int .u8 33), .lit (.int .u8 30), .lit (.int .u8 24), .lit (.int .u8 18), .lit (.int .u8 12), .lit (.int .u8 5), .lit (.int .u8 63), .lit (.int .u8 55), .lit (.int .u8 48), .lit (.int .u8 27), .lit (.int .u8 60), .lit (.int .u8 41), .lit (.int .u8 37), .lit (.int .u8 16), .lit (.int .u8 46), .lit (.int .u8 35), .lit (.int .u8 44), .lit (.int .u8 21), .lit (.int .u8 52), .lit (.int .u8 32), .lit (.int .u8 23), .lit (.int .u8 11), .lit (.int .u8 54), .lit (.int .u8 26), .lit (.int .u8 40), .lit (.int .u8 15), .lit (.int .u8 34), .lit (.int .u8 20), .lit (.int .u8 31), .lit (.int .u8 10), .lit (.int .u8 25), .lit (.int .u8 14), .lit (.int .u8 19), .lit (.int .u8 9), .lit (.int .u8 13), .lit (.int .u8 8), .lit (.int .u8 7), .lit (.int .u8 6)]

/-- 'laws.FnExactAlikeFirst': WHATEVER THE INPUT: true; the input reads as it did. -/
def fnExactAlikeFirstSpec : ChangeSpec := { name := "fnExactAlikeFirst", fn := fun _ => fun
  | [d1, d2] => { results := [.lit (.bool true)], args := [d1, d2] }
  | _ => none }
def fnExactAlikeFirstRow : OpenClaim := { program := "ytedjnenbmhajiaadoor", sum := "40b0accd97d460fc0971b0369cc74e73fab1be41965cecef885ce7b6b0661bfa", func := "loop.example/graphpieces/laws.FnExactAlikeFirst", spec := "fnExactAlikeFirst", unfollowed := true, recurses := true, named := ["math/bits.deBruijn32tab", "math/bits.deBruijn64tab"], apart := false, laid := [("math/bits.deBruijn32tab", laid_math_bits_deBruijn32tab), ("math/bits.deBruijn64tab", laid_math_bits_deBruijn64tab)] }
def FnExactAlikeFirstSaid : Prop := fnExactAlikeFirstRow.holds Tryd.pinned (OpenSpec.ofChange fnExactAlikeFirstSpec)

/-- ITS FALSE NEIGHBOUR: 'it returns false'. Refute it at one input. -/
def fnExactAlikeFirstWrong : ChangeSpec := { name := "fnExactAlikeFirst", fn := fun _ => fun
  | [d1, d2] => { results := [.lit (.bool false)], args := [d1, d2] }
  | _ => none }
def FnExactAlikeFirstWrongFalsely : Prop := fnExactAlikeFirstRow.holds Tryd.pinned (OpenSpec.ofChange fnExactAlikeFirstWrong)

/-- 'laws.FnExactAlikeLeast': WHATEVER THE INPUT: true; the input reads as it did. -/
def fnExactAlikeLeastSpec : ChangeSpec := { name := "fnExactAlikeLeast", fn := fun _ => fun
  | [d] => { results := [.lit (.bool true)], args := [d] }
  | _ => none }
def fnExactAlikeLeastRow : OpenClaim := { program := "ytedjnenbmhajiaadoor", sum := "40b0accd97d460fc0971b0369cc74e73fab1be41965cecef885ce7b6b0661bfa", func := "loop.example/graphpieces/laws.FnExactAlikeLeast", spec := "fnExactAlikeLeast", unfollowed := true, recurses := true, named := ["math/bits.deBruijn32tab", "math/bits.deBruijn64tab"], apart := false, laid := [("math/bits.deBruijn32tab", laid_math_bits_deBruijn32tab), ("math/bits.deBruijn64tab", laid_math_bits_deBruijn64tab)] }
def FnExactAlikeLeastSaid : Prop := fnExactAlikeLeastRow.holds Tryd.pinned (OpenSpec.ofChange fnExactAlikeLeastSpec)

/-- ITS FALSE NEIGHBOUR: 'it returns false'. Refute it at one input. -/
def fnExactAlikeLeastWrong : ChangeSpec := { name := "fnExactAlikeLeast", fn := fun _ => fun
  | [d] => { results := [.lit (.bool false)], args := [d] }
  | _ => none }
def FnExactAlikeLeastWrongFalsely : Prop := fnExactAlikeLeastRow.holds Tryd.pinned (OpenSpec.ofChange fnExactAlikeLeastWrong)

/-- 'laws.FnExactAlikeSame': WHATEVER THE INPUT: true; the input reads as it did. -/
def fnExactAlikeSameSpec : ChangeSpec := { name := "fnExactAlikeSame", fn := fun _ => fun
  | [d] => { results := [.lit (.bool true)], args := [d] }
  | _ => none }
def fnExactAlikeSameRow : OpenClaim := { program := "ytedjnenbmhajiaadoor", sum := "40b0accd97d460fc0971b0369cc74e73fab1be41965cecef885ce7b6b0661bfa", func := "loop.example/graphpieces/laws.FnExactAlikeSame", spec := "fnExactAlikeSame", unfollowed := true, recurses := true, named := ["math/bits.deBruijn32tab", "math/bits.deBruijn64tab"], apart := false, laid := [("math/bits.deBruijn32tab", laid_math_bits_deBruijn32tab), ("math/bits.deBruijn64tab", laid_math_bits_deBruijn64tab)] }
def FnExactAlikeSameSaid : Prop := fnExactAlikeSameRow.holds Tryd.pinned (OpenSpec.ofChange fnExactAlikeSameSpec)

/-- ITS FALSE NEIGHBOUR: 'it returns false'. Refute it at one input. -/
def fnExactAlikeSameWrong : ChangeSpec := { name := "fnExactAlikeSame", fn := fun _ => fun
  | [d] => { results := [.lit (.bool false)], args := [d] }
  | _ => none }
def FnExactAlikeSameWrongFalsely : Prop := fnExactAlikeSameRow.holds Tryd.pinned (OpenSpec.ofChange fnExactAlikeSameWrong)

/-- 'laws.FnExactAlikeOrbits': WHATEVER THE INPUT: true; the input reads as it did. -/
def fnExactAlikeOrbitsSpec : ChangeSpec := { name := "fnExactAlikeOrbits", fn := fun _ => fun
  | [d] => { results := [.lit (.bool true)], args := [d] }
  | _ => none }
def fnExactAlikeOrbitsRow : OpenClaim := { program := "ytedjnenbmhajiaadoor", sum := "40b0accd97d460fc0971b0369cc74e73fab1be41965cecef885ce7b6b0661bfa", func := "loop.example/graphpieces/laws.FnExactAlikeOrbits", spec := "fnExactAlikeOrbits", unfollowed := true, recurses := true, named := ["math/bits.deBruijn32tab", "math/bits.deBruijn64tab"], apart := false, laid := [("math/bits.deBruijn32tab", laid_math_bits_deBruijn32tab), ("math/bits.deBruijn64tab", laid_math_bits_deBruijn64tab)] }
def FnExactAlikeOrbitsSaid : Prop := fnExactAlikeOrbitsRow.holds Tryd.pinned (OpenSpec.ofChange fnExactAlikeOrbitsSpec)

/-- ITS FALSE NEIGHBOUR: 'it returns false'. Refute it at one input. -/
def fnExactAlikeOrbitsWrong : ChangeSpec := { name := "fnExactAlikeOrbits", fn := fun _ => fun
  | [d] => { results := [.lit (.bool false)], args := [d] }
  | _ => none }
def FnExactAlikeOrbitsWrongFalsely : Prop := fnExactAlikeOrbitsRow.holds Tryd.pinned (OpenSpec.ofChange fnExactAlikeOrbitsWrong)

/-- 'laws.FnExactAlikeAll': WHATEVER THE INPUT: true; the input reads as it did. -/
def fnExactAlikeAllSpec : ChangeSpec := { name := "fnExactAlikeAll", fn := fun _ => fun
  | [d] => { results := [.lit (.bool true)], args := [d] }
  | _ => none }
def fnExactAlikeAllRow : OpenClaim := { program := "ytedjnenbmhajiaadoor", sum := "40b0accd97d460fc0971b0369cc74e73fab1be41965cecef885ce7b6b0661bfa", func := "loop.example/graphpieces/laws.FnExactAlikeAll", spec := "fnExactAlikeAll", unfollowed := true, recurses := true, named := ["math/bits.deBruijn32tab", "math/bits.deBruijn64tab"], apart := false, laid := [("math/bits.deBruijn32tab", laid_math_bits_deBruijn32tab), ("math/bits.deBruijn64tab", laid_math_bits_deBruijn64tab)] }
def FnExactAlikeAllSaid : Prop := fnExactAlikeAllRow.holds Tryd.pinned (OpenSpec.ofChange fnExactAlikeAllSpec)

/-- ITS FALSE NEIGHBOUR: 'it returns false'. Refute it at one input. -/
def fnExactAlikeAllWrong : ChangeSpec := { name := "fnExactAlikeAll", fn := fun _ => fun
  | [d] => { results := [.lit (.bool false)], args := [d] }
  | _ => none }
def FnExactAlikeAllWrongFalsely : Prop := fnExactAlikeAllRow.holds Tryd.pinned (OpenSpec.ofChange fnExactAlikeAllWrong)

/-- 'laws.FnExactAlikeMany': WHATEVER THE INPUT: true; the input reads as it did. -/
def fnExactAlikeManySpec : ChangeSpec := { name := "fnExactAlikeMany", fn := fun _ => fun
  | [d] => { results := [.lit (.bool true)], args := [d] }
  | _ => none }
def fnExactAlikeManyRow : OpenClaim := { program := "ytedjnenbmhajiaadoor", sum := "40b0accd97d460fc0971b0369cc74e73fab1be41965cecef885ce7b6b0661bfa", func := "loop.example/graphpieces/laws.FnExactAlikeMany", spec := "fnExactAlikeMany", unfollowed := true, recurses := true, named := ["math/bits.deBruijn32tab", "math/bits.deBruijn64tab"], apart := false, laid := [("math/bits.deBruijn32tab", laid_math_bits_deBruijn32tab), ("math/bits.deBruijn64tab", laid_math_bits_deBruijn64tab)] }
def FnExactAlikeManySaid : Prop := fnExactAlikeManyRow.holds Tryd.pinned (OpenSpec.ofChange fnExactAlikeManySpec)

/-- ITS FALSE NEIGHBOUR: 'it returns false'. Refute it at one input. -/
def fnExactAlikeManyWrong : ChangeSpec := { name := "fnExactAlikeMany", fn := fun _ => fun
  | [d] => { results := [.lit (.bool false)], args := [d] }
  | _ => none }
def FnExactAlikeManyWrongFalsely : Prop := fnExactAlikeManyRow.holds Tryd.pinned (OpenSpec.ofChange fnExactAlikeManyWrong)

/-- 'laws.FnExactAlikeOwn': WHATEVER THE INPUT: true; the input reads as it did. -/
def fnExactAlikeOwnSpec : ChangeSpec := { name := "fnExactAlikeOwn", fn := fun _ => fun
  | [d] => { results := [.lit (.bool true)], args := [d] }
  | _ => none }
def fnExactAlikeOwnRow : OpenClaim := { program := "ytedjnenbmhajiaadoor", sum := "40b0accd97d460fc0971b0369cc74e73fab1be41965cecef885ce7b6b0661bfa", func := "loop.example/graphpieces/laws.FnExactAlikeOwn", spec := "fnExactAlikeOwn", unfollowed := true, recurses := true, named := ["math/bits.deBruijn32tab", "math/bits.deBruijn64tab"], apart := false, laid := [("math/bits.deBruijn32tab", laid_math_bits_deBruijn32tab), ("math/bits.deBruijn64tab", laid_math_bits_deBruijn64tab)] }
def FnExactAlikeOwnSaid : Prop := fnExactAlikeOwnRow.holds Tryd.pinned (OpenSpec.ofChange fnExactAlikeOwnSpec)

/-- ITS FALSE NEIGHBOUR: 'it returns false'. Refute it at one input. -/
def fnExactAlikeOwnWrong : ChangeSpec := { name := "fnExactAlikeOwn", fn := fun _ => fun
  | [d] => { results := [.lit (.bool false)], args := [d] }
  | _ => none }
def FnExactAlikeOwnWrongFalsely : Prop := fnExactAlikeOwnRow.holds Tryd.pinned (OpenSpec.ofChange fnExactAlikeOwnWrong)

/- THE SECOND FORM. 'bulk': how many values and letters a reading holds, each counted each time it is reached (what is shared counts as often as it is met; a slice's spare places count too). A statement '..UptoSaid' is the law's where the arguments, and the package variables that the reading takes, are together of bulk at most 1048576: NARROWER than '..Said'. Prove '..Said' where nothing that the law and all that it calls make is longer than what came in: it says more and counts as full. Else prove '..UptoSaid'. A law counts once. -/
mutual
def uptoBulk {H : Type} : DataW H → Nat
  | .lit (.string bytes) => bytes.length + 1
  | .lit _ => 1
  | .nil => 1
  | .ptr d => uptoBulk d + 1
  | .slice elems spare => uptoBulkAll elems + uptoBulkAll spare + 1
  | .agg parts => uptoBulkAll parts + 1
  | .iface _ d => uptoBulk d + 1
  | .map entries => uptoBulkEntries entries + 1
  | .held _ => 1
def uptoBulkAll {H : Type} : List (DataW H) → Nat
  | [] => 0
  | d :: r => uptoBulk d + uptoBulkAll r
def uptoBulkEntries {H : Type} : List (Lit × DataW H) → Nat
  | [] => 0
  | x :: r => uptoBulkEntry x + uptoBulkEntries r
def uptoBulkEntry {H : Type} : Lit × DataW H → Nat
  | (.string bytes, d) => bytes.length + uptoBulk d + 1
  | (_, d) => uptoBulk d + 1
 end
def uptoSmall : (H : Type) → List (DataW H) → Bool := fun _ ds => decide (uptoBulkAll ds ≤ 1048576)
def OpenSpec.upto (s : _root_.Go.ChangeSpec) : _root_.Go.OpenSpec := { _root_.Go.OpenSpec.ofChange s with cond := some uptoSmall }

/-- 'laws.FnExactAlikeFirst', WHERE WHAT IT READS IS OF BULK AT MOST 1048576: true; the input reads as it did. -/
def fnExactAlikeFirstUptoRow : OpenClaim := { program := "ytedjnenbmhajiaadoor", sum := "40b0accd97d460fc0971b0369cc74e73fab1be41965cecef885ce7b6b0661bfa", func := "loop.example/graphpieces/laws.FnExactAlikeFirst", spec := "fnExactAlikeFirst", unfollowed := true, recurses := true, named := ["math/bits.deBruijn32tab", "math/bits.deBruijn64tab"], apart := false, laid := [("math/bits.deBruijn32tab", laid_math_bits_deBruijn32tab), ("math/bits.deBruijn64tab", laid_math_bits_deBruijn64tab)], narrowed := true }
def FnExactAlikeFirstUptoSaid : Prop := fnExactAlikeFirstUptoRow.holds Tryd.pinned (OpenSpec.upto fnExactAlikeFirstSpec)

/-- 'laws.FnExactAlikeLeast', WHERE WHAT IT READS IS OF BULK AT MOST 1048576: true; the input reads as it did. -/
def fnExactAlikeLeastUptoRow : OpenClaim := { program := "ytedjnenbmhajiaadoor", sum := "40b0accd97d460fc0971b0369cc74e73fab1be41965cecef885ce7b6b0661bfa", func := "loop.example/graphpieces/laws.FnExactAlikeLeast", spec := "fnExactAlikeLeast", unfollowed := true, recurses := true, named := ["math/bits.deBruijn32tab", "math/bits.deBruijn64tab"], apart := false, laid := [("math/bits.deBruijn32tab", laid_math_bits_deBruijn32tab), ("math/bits.deBruijn64tab", laid_math_bits_deBruijn64tab)], narrowed := true }
def FnExactAlikeLeastUptoSaid : Prop := fnExactAlikeLeastUptoRow.holds Tryd.pinned (OpenSpec.upto fnExactAlikeLeastSpec)

/-- 'laws.FnExactAlikeSame', WHERE WHAT IT READS IS OF BULK AT MOST 1048576: true; the input reads as it did. -/
def fnExactAlikeSameUptoRow : OpenClaim := { program := "ytedjnenbmhajiaadoor", sum := "40b0accd97d460fc0971b0369cc74e73fab1be41965cecef885ce7b6b0661bfa", func := "loop.example/graphpieces/laws.FnExactAlikeSame", spec := "fnExactAlikeSame", unfollowed := true, recurses := true, named := ["math/bits.deBruijn32tab", "math/bits.deBruijn64tab"], apart := false, laid := [("math/bits.deBruijn32tab", laid_math_bits_deBruijn32tab), ("math/bits.deBruijn64tab", laid_math_bits_deBruijn64tab)], narrowed := true }
def FnExactAlikeSameUptoSaid : Prop := fnExactAlikeSameUptoRow.holds Tryd.pinned (OpenSpec.upto fnExactAlikeSameSpec)

/-- 'laws.FnExactAlikeOrbits', WHERE WHAT IT READS IS OF BULK AT MOST 1048576: true; the input reads as it did. -/
def fnExactAlikeOrbitsUptoRow : OpenClaim := { program := "ytedjnenbmhajiaadoor", sum := "40b0accd97d460fc0971b0369cc74e73fab1be41965cecef885ce7b6b0661bfa", func := "loop.example/graphpieces/laws.FnExactAlikeOrbits", spec := "fnExactAlikeOrbits", unfollowed := true, recurses := true, named := ["math/bits.deBruijn32tab", "math/bits.deBruijn64tab"], apart := false, laid := [("math/bits.deBruijn32tab", laid_math_bits_deBruijn32tab), ("math/bits.deBruijn64tab", laid_math_bits_deBruijn64tab)], narrowed := true }
def FnExactAlikeOrbitsUptoSaid : Prop := fnExactAlikeOrbitsUptoRow.holds Tryd.pinned (OpenSpec.upto fnExactAlikeOrbitsSpec)

/-- 'laws.FnExactAlikeAll', WHERE WHAT IT READS IS OF BULK AT MOST 1048576: true; the input reads as it did. -/
def fnExactAlikeAllUptoRow : OpenClaim := { program := "ytedjnenbmhajiaadoor", sum := "40b0accd97d460fc0971b0369cc74e73fab1be41965cecef885ce7b6b0661bfa", func := "loop.example/graphpieces/laws.FnExactAlikeAll", spec := "fnExactAlikeAll", unfollowed := true, recurses := true, named := ["math/bits.deBruijn32tab", "math/bits.deBruijn64tab"], apart := false, laid := [("math/bits.deBruijn32tab", laid_math_bits_deBruijn32tab), ("math/bits.deBruijn64tab", laid_math_bits_deBruijn64tab)], narrowed := true }
def FnExactAlikeAllUptoSaid : Prop := fnExactAlikeAllUptoRow.holds Tryd.pinned (OpenSpec.upto fnExactAlikeAllSpec)

/-- 'laws.FnExactAlikeMany', WHERE WHAT IT READS IS OF BULK AT MOST 1048576: true; the input reads as it did. -/
def fnExactAlikeManyUptoRow : OpenClaim := { program := "ytedjnenbmhajiaadoor", sum := "40b0accd97d460fc0971b0369cc74e73fab1be41965cecef885ce7b6b0661bfa", func := "loop.example/graphpieces/laws.FnExactAlikeMany", spec := "fnExactAlikeMany", unfollowed := true, recurses := true, named := ["math/bits.deBruijn32tab", "math/bits.deBruijn64tab"], apart := false, laid := [("math/bits.deBruijn32tab", laid_math_bits_deBruijn32tab), ("math/bits.deBruijn64tab", laid_math_bits_deBruijn64tab)], narrowed := true }
def FnExactAlikeManyUptoSaid : Prop := fnExactAlikeManyUptoRow.holds Tryd.pinned (OpenSpec.upto fnExactAlikeManySpec)

/-- 'laws.FnExactAlikeOwn', WHERE WHAT IT READS IS OF BULK AT MOST 1048576: true; the input reads as it did. -/
def fnExactAlikeOwnUptoRow : OpenClaim := { program := "ytedjnenbmhajiaadoor", sum := "40b0accd97d460fc0971b0369cc74e73fab1be41965cecef885ce7b6b0661bfa", func := "loop.example/graphpieces/laws.FnExactAlikeOwn", spec := "fnExactAlikeOwn", unfollowed := true, recurses := true, named := ["math/bits.deBruijn32tab", "math/bits.deBruijn64tab"], apart := false, laid := [("math/bits.deBruijn32tab", laid_math_bits_deBruijn32tab), ("math/bits.deBruijn64tab", laid_math_bits_deBruijn64tab)], narrowed := true }
def FnExactAlikeOwnUptoSaid : Prop := fnExactAlikeOwnUptoRow.holds Tryd.pinned (OpenSpec.upto fnExactAlikeOwnSpec)

end Rows
end Go.Proofs.YtedjnenbmhajiaaDoor
