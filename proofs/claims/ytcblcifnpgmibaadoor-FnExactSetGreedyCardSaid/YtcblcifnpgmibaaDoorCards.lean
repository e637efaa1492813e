/-
  DERIVED. GIVEN WITH THE SEED: THE CARDS: each row of YtcblcifnpgmibaaDoorRows.lean that lists a variable, with what it lists TIED to the program's text (the seventh form; the later family's looks); each row that meets fmt, with fmt's text TOLD by the authors' own Lean function (tested against real Go, not proved from fmt's source: count such statements apart). THE CARD IS WHAT COUNTS. Prove the row's statement (the work); the ties are given (YtcblcifnpgmibaaDoorTie.lean); close each card by the builder's one call (the guide's Derived/Test/ToyasCard.lean, 'card_holds'). Laid BY PROGRAM, IN A SANDBOX (cutbox-door.mjs). By AI agents, Wed Nov 11 2026. No macro, syntax, notation, axiom, sorry.
-/
import Derived.Test.YtcblcifnpgmibaaDoorRows
import GoSem.ClaimSeven
namespace Go.Proofs.YtcblcifnpgmibaaDoor
namespace Rows

/-- THE TIED CARD OF 'laws.FnExactSetFree'. -/
def fnExactSetFreeCard : Claim7 := { stood := { row := fnExactSetFreeRow, standIns := [], harness := (true, "a2d5cef97d812b32d403e33e26b6e0f7da116c6a127733567d11a8c362a273df"), looks := false }, kinds := [], alts := [], laidByText := true, laidKinds := [.data, .data], laidTests := true, laidLooks := .later }
def FnExactSetFreeCardSaid : Prop := Claim7.holds Tryd.pinned (.plain (OpenSpec.ofChange fnExactSetFreeSpec)) fnExactSetFreeCard

/-- THE TIED CARD OF 'laws.FnExactSetFull'. -/
def fnExactSetFullCard : Claim7 := { stood := { row := fnExactSetFullRow, standIns := [], harness := (true, "a2d5cef97d812b32d403e33e26b6e0f7da116c6a127733567d11a8c362a273df"), looks := false }, kinds := [], alts := [], laidByText := true, laidKinds := [.data, .data], laidTests := true, laidLooks := .later }
def FnExactSetFullCardSaid : Prop := Claim7.holds Tryd.pinned (.plain (OpenSpec.ofChange fnExactSetFullSpec)) fnExactSetFullCard

/-- THE TIED CARD OF 'laws.FnExactSetCover'. -/
def fnExactSetCoverCard : Claim7 := { stood := { row := fnExactSetCoverRow, standIns := [], harness := (true, "a2d5cef97d812b32d403e33e26b6e0f7da116c6a127733567d11a8c362a273df"), looks := false }, kinds := [], alts := [], laidByText := true, laidKinds := [.data, .data], laidTests := true, laidLooks := .later }
def FnExactSetCoverCardSaid : Prop := Claim7.holds Tryd.pinned (.plain (OpenSpec.ofChange fnExactSetCoverSpec)) fnExactSetCoverCard

/-- THE TIED CARD OF 'laws.FnExactSetWatch'. -/
def fnExactSetWatchCard : Claim7 := { stood := { row := fnExactSetWatchRow, standIns := [], harness := (true, "a2d5cef97d812b32d403e33e26b6e0f7da116c6a127733567d11a8c362a273df"), looks := false }, kinds := [], alts := [], laidByText := true, laidKinds := [.data, .data], laidTests := true, laidLooks := .later }
def FnExactSetWatchCardSaid : Prop := Claim7.holds Tryd.pinned (.plain (OpenSpec.ofChange fnExactSetWatchSpec)) fnExactSetWatchCard

/-- THE TIED CARD OF 'laws.FnExactSetMatch'. -/
def fnExactSetMatchCard : Claim7 := { stood := { row := fnExactSetMatchRow, standIns := [], harness := (true, "a2d5cef97d812b32d403e33e26b6e0f7da116c6a127733567d11a8c362a273df"), looks := false }, kinds := [], alts := [], laidByText := true, laidKinds := [.data, .data], laidTests := true, laidLooks := .later }
def FnExactSetMatchCardSaid : Prop := Claim7.holds Tryd.pinned (.plain (OpenSpec.ofChange fnExactSetMatchSpec)) fnExactSetMatchCard

/-- THE TIED CARD OF 'laws.FnExactSetLines'. -/
def fnExactSetLinesCard : Claim7 := { stood := { row := fnExactSetLinesRow, standIns := [], harness := (true, "a2d5cef97d812b32d403e33e26b6e0f7da116c6a127733567d11a8c362a273df"), looks := false }, kinds := [], alts := [], laidByText := true, laidKinds := [.data, .data], laidTests := true, laidLooks := .later }
def FnExactSetLinesCardSaid : Prop := Claim7.holds Tryd.pinned (.plain (OpenSpec.ofChange fnExactSetLinesSpec)) fnExactSetLinesCard

/-- THE TIED CARD OF 'laws.FnExactSetCounts'. -/
def fnExactSetCountsCard : Claim7 := { stood := { row := fnExactSetCountsRow, standIns := [], harness := (true, "a2d5cef97d812b32d403e33e26b6e0f7da116c6a127733567d11a8c362a273df"), looks := false }, kinds := [], alts := [], laidByText := true, laidKinds := [.data, .data], laidTests := true, laidLooks := .later }
def FnExactSetCountsCardSaid : Prop := Claim7.holds Tryd.pinned (.plain (OpenSpec.ofChange fnExactSetCountsSpec)) fnExactSetCountsCard

/-- THE TIED CARD OF 'laws.FnExactSetGreedy'. -/
def fnExactSetGreedyCard : Claim7 := { stood := { row := fnExactSetGreedyRow, standIns := [], harness := (true, "a2d5cef97d812b32d403e33e26b6e0f7da116c6a127733567d11a8c362a273df"), looks := false }, kinds := [], alts := [], laidByText := true, laidKinds := [.data, .data], laidTests := true, laidLooks := .later }
def FnExactSetGreedyCardSaid : Prop := Claim7.holds Tryd.pinned (.plain (OpenSpec.ofChange fnExactSetGreedySpec)) fnExactSetGreedyCard

/-- THE SECOND FORM's CARD OF 'laws.FnExactSetFree'. -/
def fnExactSetFreeUptoCard : Claim7 := { stood := { row := fnExactSetFreeUptoRow, standIns := [], harness := (true, "a2d5cef97d812b32d403e33e26b6e0f7da116c6a127733567d11a8c362a273df"), looks := false }, kinds := [], alts := [], laidByText := true, laidKinds := [.data, .data], laidTests := true, laidLooks := .later }
def FnExactSetFreeUptoCardSaid : Prop := Claim7.holds Tryd.pinned (.plain (OpenSpec.upto fnExactSetFreeSpec)) fnExactSetFreeUptoCard

/-- THE SECOND FORM's CARD OF 'laws.FnExactSetFull'. -/
def fnExactSetFullUptoCard : Claim7 := { stood := { row := fnExactSetFullUptoRow, standIns := [], harness := (true, "a2d5cef97d812b32d403e33e26b6e0f7da116c6a127733567d11a8c362a273df"), looks := false }, kinds := [], alts := [], laidByText := true, laidKinds := [.data, .data], laidTests := true, laidLooks := .later }
def FnExactSetFullUptoCardSaid : Prop := Claim7.holds Tryd.pinned (.plain (OpenSpec.upto fnExactSetFullSpec)) fnExactSetFullUptoCard

/-- THE SECOND FORM's CARD OF 'laws.FnExactSetCover'. -/
def fnExactSetCoverUptoCard : Claim7 := { stood := { row := fnExactSetCoverUptoRow, standIns := [], harness := (true, "a2d5cef97d812b32d403e33e26b6e0f7da116c6a127733567d11a8c362a273df"), looks := false }, kinds := [], alts := [], laidByText := true, laidKinds := [.data, .data], laidTests := true, laidLooks := .later }
def FnExactSetCoverUptoCardSaid : Prop := Claim7.holds Tryd.pinned (.plain (OpenSpec.upto fnExactSetCoverSpec)) fnExactSetCoverUptoCard

/-- THE SECOND FORM's CARD OF 'laws.FnExactSetWatch'. -/
def fnExactSetWatchUptoCard : Claim7 := { stood := { row := fnExactSetWatchUptoRow, standIns := [], harness := (true, "a2d5cef97d812b32d403e33e26b6e0f7da116c6a127733567d11a8c362a273df"), looks := false }, kinds := [], alts := [], laidByText := true, laidKinds := [.data, .data], laidTests := true, laidLooks := .later }
def FnExactSetWatchUptoCardSaid : Prop := Claim7.holds Tryd.pinned (.plain (OpenSpec.upto fnExactSetWatchSpec)) fnExactSetWatchUptoCard

/-- THE SECOND FORM's CARD OF 'laws.FnExactSetMatch'. -/
def fnExactSetMatchUptoCard : Claim7 := { stood := { row := fnExactSetMatchUptoRow, standIns := [], harness := (true, "a2d5cef97d812b32d403e33e26b6e0f7da116c6a127733567d11a8c362a273df"), looks := false }, kinds := [], alts := [], laidByText := true, laidKinds := [.data, .data], laidTests := true, laidLooks := .later }
def FnExactSetMatchUptoCardSaid : Prop := Claim7.holds Tryd.pinned (.plain (OpenSpec.upto fnExactSetMatchSpec)) fnExactSetMatchUptoCard

/-- THE SECOND FORM's CARD OF 'laws.FnExactSetLines'. -/
def fnExactSetLinesUptoCard : Claim7 := { stood := { row := fnExactSetLinesUptoRow, standIns := [], harness := (true, "a2d5cef97d812b32d403e33e26b6e0f7da116c6a127733567d11a8c362a273df"), looks := false }, kinds := [], alts := [], laidByText := true, laidKinds := [.data, .data], laidTests := true, laidLooks := .later }
def FnExactSetLinesUptoCardSaid : Prop := Claim7.holds Tryd.pinned (.plain (OpenSpec.upto fnExactSetLinesSpec)) fnExactSetLinesUptoCard

/-- THE SECOND FORM's CARD OF 'laws.FnExactSetCounts'. -/
def fnExactSetCountsUptoCard : Claim7 := { stood := { row := fnExactSetCountsUptoRow, standIns := [], harness := (true, "a2d5cef97d812b32d403e33e26b6e0f7da116c6a127733567d11a8c362a273df"), looks := false }, kinds := [], alts := [], laidByText := true, laidKinds := [.data, .data], laidTests := true, laidLooks := .later }
def FnExactSetCountsUptoCardSaid : Prop := Claim7.holds Tryd.pinned (.plain (OpenSpec.upto fnExactSetCountsSpec)) fnExactSetCountsUptoCard

/-- THE SECOND FORM's CARD OF 'laws.FnExactSetGreedy'. -/
def fnExactSetGreedyUptoCard : Claim7 := { stood := { row := fnExactSetGreedyUptoRow, standIns := [], harness := (true, "a2d5cef97d812b32d403e33e26b6e0f7da116c6a127733567d11a8c362a273df"), looks := false }, kinds := [], alts := [], laidByText := true, laidKinds := [.data, .data], laidTests := true, laidLooks := .later }
def FnExactSetGreedyUptoCardSaid : Prop := Claim7.holds Tryd.pinned (.plain (OpenSpec.upto fnExactSetGreedySpec)) fnExactSetGreedyUptoCard
end Rows
end Go.Proofs.YtcblcifnpgmibaaDoor
