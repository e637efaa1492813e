/-
  DERIVED. GIVEN WITH THE SEED: THE CARDS: each row of YtdhpamemkkfhhaaDoorRows.lean that lists a variable, with what it lists TIED to the program's text (the seventh form; the later family's looks); each row that meets fmt, with fmt's text TOLD by the authors' own Lean function (tested against real Go, not proved from fmt's source: count such statements apart). THE CARD IS WHAT COUNTS. Prove the row's statement (the work); the ties are given (YtdhpamemkkfhhaaDoorTie.lean); close each card by the builder's one call (the guide's Derived/Test/ToyasCard.lean, 'card_holds'). Laid BY PROGRAM, IN A SANDBOX (cutbox-door.mjs). By AI agents, Wed Nov 11 2026. No macro, syntax, notation, axiom, sorry.
-/
import Derived.Test.YtdhpamemkkfhhaaDoorRows
import GoSem.ClaimSeven
namespace Go.Proofs.YtdhpamemkkfhhaaDoor
namespace Rows

/-- THE TIED CARD OF 'laws.FnExactTutteRank'. -/
def fnExactTutteRankCard : Claim7 := { stood := { row := fnExactTutteRankRow, standIns := [], harness := (true, "5eb83310e60b8480b1b86e42cbfc2d6be43a7bb18d4035a20e7402267110616c"), looks := false }, kinds := [], alts := [], laidByText := true, laidKinds := [.data, .data], laidTests := true, laidLooks := .later }
def FnExactTutteRankCardSaid : Prop := Claim7.holds Tryd.pinned (.plain (OpenSpec.ofChange fnExactTutteRankSpec)) fnExactTutteRankCard

/-- THE TIED CARD OF 'laws.FnExactTutteSets'. -/
def fnExactTutteSetsCard : Claim7 := { stood := { row := fnExactTutteSetsRow, standIns := [], harness := (true, "5eb83310e60b8480b1b86e42cbfc2d6be43a7bb18d4035a20e7402267110616c"), looks := false }, kinds := [], alts := [], laidByText := true, laidKinds := [.data, .data], laidTests := true, laidLooks := .later }
def FnExactTutteSetsCardSaid : Prop := Claim7.holds Tryd.pinned (.plain (OpenSpec.ofChange fnExactTutteSetsSpec)) fnExactTutteSetsCard

/-- THE TIED CARD OF 'laws.FnExactTutteEdges'. -/
def fnExactTutteEdgesCard : Claim7 := { stood := { row := fnExactTutteEdgesRow, standIns := [], harness := (true, "5eb83310e60b8480b1b86e42cbfc2d6be43a7bb18d4035a20e7402267110616c"), looks := false }, kinds := [], alts := [], laidByText := true, laidKinds := [.data, .data], laidTests := true, laidLooks := .later }
def FnExactTutteEdgesCardSaid : Prop := Claim7.holds Tryd.pinned (.plain (OpenSpec.ofChange fnExactTutteEdgesSpec)) fnExactTutteEdgesCard

/-- THE TIED CARD OF 'laws.FnExactTutteActive'. -/
def fnExactTutteActiveCard : Claim7 := { stood := { row := fnExactTutteActiveRow, standIns := [], harness := (true, "5eb83310e60b8480b1b86e42cbfc2d6be43a7bb18d4035a20e7402267110616c"), looks := false }, kinds := [], alts := [], laidByText := true, laidKinds := [.data, .data], laidTests := true, laidLooks := .later }
def FnExactTutteActiveCardSaid : Prop := Claim7.holds Tryd.pinned (.plain (OpenSpec.ofChange fnExactTutteActiveSpec)) fnExactTutteActiveCard

/-- THE TIED CARD OF 'laws.FnExactTutteTrees'. -/
def fnExactTutteTreesCard : Claim7 := { stood := { row := fnExactTutteTreesRow, standIns := [], harness := (true, "5eb83310e60b8480b1b86e42cbfc2d6be43a7bb18d4035a20e7402267110616c"), looks := false }, kinds := [], alts := [], laidByText := true, laidKinds := [.data, .data], laidTests := true, laidLooks := .later }
def FnExactTutteTreesCardSaid : Prop := Claim7.holds Tryd.pinned (.plain (OpenSpec.ofChange fnExactTutteTreesSpec)) fnExactTutteTreesCard

/-- THE TIED CARD OF 'laws.FnExactTutteAt'. -/
def fnExactTutteAtCard : Claim7 := { stood := { row := fnExactTutteAtRow, standIns := [], harness := (true, "5eb83310e60b8480b1b86e42cbfc2d6be43a7bb18d4035a20e7402267110616c"), looks := false }, kinds := [], alts := [], laidByText := true, laidKinds := [.data, .data], laidTests := true, laidLooks := .later }
def FnExactTutteAtCardSaid : Prop := Claim7.holds Tryd.pinned (.plain (OpenSpec.ofChange fnExactTutteAtSpec)) fnExactTutteAtCard

/-- THE TIED CARD OF 'laws.FnExactTutteColours'. -/
def fnExactTutteColoursCard : Claim7 := { stood := { row := fnExactTutteColoursRow, standIns := [], harness := (true, "5eb83310e60b8480b1b86e42cbfc2d6be43a7bb18d4035a20e7402267110616c"), looks := false }, kinds := [], alts := [], laidByText := true, laidKinds := [.data, .data], laidTests := true, laidLooks := .later }
def FnExactTutteColoursCardSaid : Prop := Claim7.holds Tryd.pinned (.plain (OpenSpec.ofChange fnExactTutteColoursSpec)) fnExactTutteColoursCard

/-- THE TIED CARD OF 'laws.FnExactTutteFlows'. -/
def fnExactTutteFlowsCard : Claim7 := { stood := { row := fnExactTutteFlowsRow, standIns := [], harness := (true, "5eb83310e60b8480b1b86e42cbfc2d6be43a7bb18d4035a20e7402267110616c"), looks := false }, kinds := [], alts := [], laidByText := true, laidKinds := [.data, .data], laidTests := true, laidLooks := .later }
def FnExactTutteFlowsCardSaid : Prop := Claim7.holds Tryd.pinned (.plain (OpenSpec.ofChange fnExactTutteFlowsSpec)) fnExactTutteFlowsCard

/-- THE SECOND FORM's CARD OF 'laws.FnExactTutteRank'. -/
def fnExactTutteRankUptoCard : Claim7 := { stood := { row := fnExactTutteRankUptoRow, standIns := [], harness := (true, "5eb83310e60b8480b1b86e42cbfc2d6be43a7bb18d4035a20e7402267110616c"), looks := false }, kinds := [], alts := [], laidByText := true, laidKinds := [.data, .data], laidTests := true, laidLooks := .later }
def FnExactTutteRankUptoCardSaid : Prop := Claim7.holds Tryd.pinned (.plain (OpenSpec.upto fnExactTutteRankSpec)) fnExactTutteRankUptoCard

/-- THE SECOND FORM's CARD OF 'laws.FnExactTutteSets'. -/
def fnExactTutteSetsUptoCard : Claim7 := { stood := { row := fnExactTutteSetsUptoRow, standIns := [], harness := (true, "5eb83310e60b8480b1b86e42cbfc2d6be43a7bb18d4035a20e7402267110616c"), looks := false }, kinds := [], alts := [], laidByText := true, laidKinds := [.data, .data], laidTests := true, laidLooks := .later }
def FnExactTutteSetsUptoCardSaid : Prop := Claim7.holds Tryd.pinned (.plain (OpenSpec.upto fnExactTutteSetsSpec)) fnExactTutteSetsUptoCard

/-- THE SECOND FORM's CARD OF 'laws.FnExactTutteEdges'. -/
def fnExactTutteEdgesUptoCard : Claim7 := { stood := { row := fnExactTutteEdgesUptoRow, standIns := [], harness := (true, "5eb83310e60b8480b1b86e42cbfc2d6be43a7bb18d4035a20e7402267110616c"), looks := false }, kinds := [], alts := [], laidByText := true, laidKinds := [.data, .data], laidTests := true, laidLooks := .later }
def FnExactTutteEdgesUptoCardSaid : Prop := Claim7.holds Tryd.pinned (.plain (OpenSpec.upto fnExactTutteEdgesSpec)) fnExactTutteEdgesUptoCard

/-- THE SECOND FORM's CARD OF 'laws.FnExactTutteActive'. -/
def fnExactTutteActiveUptoCard : Claim7 := { stood := { row := fnExactTutteActiveUptoRow, standIns := [], harness := (true, "5eb83310e60b8480b1b86e42cbfc2d6be43a7bb18d4035a20e7402267110616c"), looks := false }, kinds := [], alts := [], laidByText := true, laidKinds := [.data, .data], laidTests := true, laidLooks := .later }
def FnExactTutteActiveUptoCardSaid : Prop := Claim7.holds Tryd.pinned (.plain (OpenSpec.upto fnExactTutteActiveSpec)) fnExactTutteActiveUptoCard

/-- THE SECOND FORM's CARD OF 'laws.FnExactTutteTrees'. -/
def fnExactTutteTreesUptoCard : Claim7 := { stood := { row := fnExactTutteTreesUptoRow, standIns := [], harness := (true, "5eb83310e60b8480b1b86e42cbfc2d6be43a7bb18d4035a20e7402267110616c"), looks := false }, kinds := [], alts := [], laidByText := true, laidKinds := [.data, .data], laidTests := true, laidLooks := .later }
def FnExactTutteTreesUptoCardSaid : Prop := Claim7.holds Tryd.pinned (.plain (OpenSpec.upto fnExactTutteTreesSpec)) fnExactTutteTreesUptoCard

/-- THE SECOND FORM's CARD OF 'laws.FnExactTutteAt'. -/
def fnExactTutteAtUptoCard : Claim7 := { stood := { row := fnExactTutteAtUptoRow, standIns := [], harness := (true, "5eb83310e60b8480b1b86e42cbfc2d6be43a7bb18d4035a20e7402267110616c"), looks := false }, kinds := [], alts := [], laidByText := true, laidKinds := [.data, .data], laidTests := true, laidLooks := .later }
def FnExactTutteAtUptoCardSaid : Prop := Claim7.holds Tryd.pinned (.plain (OpenSpec.upto fnExactTutteAtSpec)) fnExactTutteAtUptoCard

/-- THE SECOND FORM's CARD OF 'laws.FnExactTutteColours'. -/
def fnExactTutteColoursUptoCard : Claim7 := { stood := { row := fnExactTutteColoursUptoRow, standIns := [], harness := (true, "5eb83310e60b8480b1b86e42cbfc2d6be43a7bb18d4035a20e7402267110616c"), looks := false }, kinds := [], alts := [], laidByText := true, laidKinds := [.data, .data], laidTests := true, laidLooks := .later }
def FnExactTutteColoursUptoCardSaid : Prop := Claim7.holds Tryd.pinned (.plain (OpenSpec.upto fnExactTutteColoursSpec)) fnExactTutteColoursUptoCard

/-- THE SECOND FORM's CARD OF 'laws.FnExactTutteFlows'. -/
def fnExactTutteFlowsUptoCard : Claim7 := { stood := { row := fnExactTutteFlowsUptoRow, standIns := [], harness := (true, "5eb83310e60b8480b1b86e42cbfc2d6be43a7bb18d4035a20e7402267110616c"), looks := false }, kinds := [], alts := [], laidByText := true, laidKinds := [.data, .data], laidTests := true, laidLooks := .later }
def FnExactTutteFlowsUptoCardSaid : Prop := Claim7.holds Tryd.pinned (.plain (OpenSpec.upto fnExactTutteFlowsSpec)) fnExactTutteFlowsUptoCard
end Rows
end Go.Proofs.YtdhpamemkkfhhaaDoor
