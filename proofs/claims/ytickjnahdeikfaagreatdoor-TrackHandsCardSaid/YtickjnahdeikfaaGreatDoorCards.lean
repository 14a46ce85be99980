/-
  DERIVED. GIVEN WITH THE SEED: THE CARDS: each row of YtickjnahdeikfaaGreatDoorRows.lean that lists a variable, with what it lists TIED to the program's text (the seventh form; the later family's looks); each row that meets fmt, with fmt's text TOLD by the authors' own Lean function (tested against real Go, not proved from fmt's source: count such statements apart). THE CARD IS WHAT COUNTS. Prove the row's statement (the work); the ties are given (YtickjnahdeikfaaGreatDoorTie.lean); close each card by the builder's one call (the guide's Derived/Test/ToyasCard.lean, 'card_holds'). Laid BY PROGRAM, IN A SANDBOX (cutbox-door.mjs). By AI agents, Wed Nov 11 2026. No macro, syntax, notation, axiom, sorry.
-/
import Derived.Test.YtickjnahdeikfaaGreatDoorRows
import GoSem.ClaimSeven
namespace Go.Proofs.YtickjnahdeikfaaGreatDoor
namespace Rows

/-- THE TIED CARD OF 'stadionlaw07.TrackRelays'. -/
def trackRelaysCard : Claim7 := { stood := { row := trackRelaysRow, standIns := [], harness := (true, "974552d5bb1f1555553becca7bd2d9d809d90c94b2a64d1e1d662498dbf24a41"), looks := false }, kinds := [], alts := [], laidByText := true, laidKinds := [.data, .data, .data, .data, .data, .pinned], laidTests := true, laidLooks := .later }
def TrackRelaysCardSaid : Prop := Claim7.holds Tryz.pinned (.plain (OpenSpec.ofChange trackRelaysSpec)) trackRelaysCard

/-- THE TIED CARD OF 'stadionlaw07.TrackTeams'. -/
def trackTeamsCard : Claim7 := { stood := { row := trackTeamsRow, standIns := [], harness := (true, "974552d5bb1f1555553becca7bd2d9d809d90c94b2a64d1e1d662498dbf24a41"), looks := false }, kinds := [], alts := [], laidByText := true, laidKinds := [.data, .data, .data, .data, .data, .pinned], laidTests := true, laidLooks := .later }
def TrackTeamsCardSaid : Prop := Claim7.holds Tryz.pinned (.plain (OpenSpec.ofChange trackTeamsSpec)) trackTeamsCard

/-- THE TIED CARD OF 'stadionlaw07.TrackHands'. -/
def trackHandsCard : Claim7 := { stood := { row := trackHandsRow, standIns := [], harness := (true, "974552d5bb1f1555553becca7bd2d9d809d90c94b2a64d1e1d662498dbf24a41"), looks := false }, kinds := [], alts := [], laidByText := true, laidKinds := [.data, .data, .data, .data, .data, .pinned], laidTests := true, laidLooks := .later }
def TrackHandsCardSaid : Prop := Claim7.holds Tryz.pinned (.plain (OpenSpec.ofChange trackHandsSpec)) trackHandsCard

/-- THE TIED CARD OF 'stadionlaw07.TrackChanges'. -/
def trackChangesCard : Claim7 := { stood := { row := trackChangesRow, standIns := [], harness := (true, "974552d5bb1f1555553becca7bd2d9d809d90c94b2a64d1e1d662498dbf24a41"), looks := false }, kinds := [], alts := [], laidByText := true, laidKinds := [.data, .data, .data, .data, .data, .pinned], laidTests := true, laidLooks := .later }
def TrackChangesCardSaid : Prop := Claim7.holds Tryz.pinned (.plain (OpenSpec.ofChange trackChangesSpec)) trackChangesCard

/-- THE SECOND FORM's CARD OF 'stadionlaw07.TrackRelays'. -/
def trackRelaysUptoCard : Claim7 := { stood := { row := trackRelaysUptoRow, standIns := [], harness := (true, "974552d5bb1f1555553becca7bd2d9d809d90c94b2a64d1e1d662498dbf24a41"), looks := false }, kinds := [], alts := [], laidByText := true, laidKinds := [.data, .data, .data, .data, .data, .pinned], laidTests := true, laidLooks := .later }
def TrackRelaysUptoCardSaid : Prop := Claim7.holds Tryz.pinned (.plain (OpenSpec.upto trackRelaysSpec)) trackRelaysUptoCard

/-- THE SECOND FORM's CARD OF 'stadionlaw07.TrackTeams'. -/
def trackTeamsUptoCard : Claim7 := { stood := { row := trackTeamsUptoRow, standIns := [], harness := (true, "974552d5bb1f1555553becca7bd2d9d809d90c94b2a64d1e1d662498dbf24a41"), looks := false }, kinds := [], alts := [], laidByText := true, laidKinds := [.data, .data, .data, .data, .data, .pinned], laidTests := true, laidLooks := .later }
def TrackTeamsUptoCardSaid : Prop := Claim7.holds Tryz.pinned (.plain (OpenSpec.upto trackTeamsSpec)) trackTeamsUptoCard

/-- THE SECOND FORM's CARD OF 'stadionlaw07.TrackHands'. -/
def trackHandsUptoCard : Claim7 := { stood := { row := trackHandsUptoRow, standIns := [], harness := (true, "974552d5bb1f1555553becca7bd2d9d809d90c94b2a64d1e1d662498dbf24a41"), looks := false }, kinds := [], alts := [], laidByText := true, laidKinds := [.data, .data, .data, .data, .data, .pinned], laidTests := true, laidLooks := .later }
def TrackHandsUptoCardSaid : Prop := Claim7.holds Tryz.pinned (.plain (OpenSpec.upto trackHandsSpec)) trackHandsUptoCard

/-- THE SECOND FORM's CARD OF 'stadionlaw07.TrackChanges'. -/
def trackChangesUptoCard : Claim7 := { stood := { row := trackChangesUptoRow, standIns := [], harness := (true, "974552d5bb1f1555553becca7bd2d9d809d90c94b2a64d1e1d662498dbf24a41"), looks := false }, kinds := [], alts := [], laidByText := true, laidKinds := [.data, .data, .data, .data, .data, .pinned], laidTests := true, laidLooks := .later }
def TrackChangesUptoCardSaid : Prop := Claim7.holds Tryz.pinned (.plain (OpenSpec.upto trackChangesSpec)) trackChangesUptoCard
end Rows
end Go.Proofs.YtickjnahdeikfaaGreatDoor
