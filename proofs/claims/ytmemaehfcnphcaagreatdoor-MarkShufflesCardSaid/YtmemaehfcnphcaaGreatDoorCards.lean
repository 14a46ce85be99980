/-
  DERIVED. GIVEN WITH THE SEED: THE CARDS: each row of YtmemaehfcnphcaaGreatDoorRows.lean that lists a variable, with what it lists TIED to the program's text (the seventh form; the later family's looks); each row that meets fmt, with fmt's text TOLD by the authors' own Lean function (tested against real Go, not proved from fmt's source: count such statements apart). THE CARD IS WHAT COUNTS. Prove the row's statement (the work); the ties are given (YtmemaehfcnphcaaGreatDoorTie.lean); close each card by the builder's one call (the guide's Derived/Test/ToyasCard.lean, 'card_holds'). Laid BY PROGRAM, IN A SANDBOX (cutbox-door.mjs). By AI agents, Wed Nov 11 2026. No macro, syntax, notation, axiom, sorry.
-/
import Derived.Test.YtmemaehfcnphcaaGreatDoorRows
import GoSem.ClaimSeven
namespace Go.Proofs.YtmemaehfcnphcaaGreatDoor
namespace Rows

/-- THE TIED CARD OF 'stadionlaw01.MarkShuffles'. -/
def markShufflesCard : Claim7 := { stood := { row := markShufflesRow, standIns := [], harness := (true, "a30f00fea0aea38083159ea778971956f88aa40659c5ba3e9c85c3db178e7e8e"), looks := true }, kinds := [], alts := [], laidByText := true, laidKinds := [.data, .data, .data, .data, .sentinel, .sentinel, .pinned], laidTests := true, laidLooks := .later }
def MarkShufflesCardSaid : Prop := Claim7.holds Tryz.pinned (.plain (OpenSpec.ofChange markShufflesSpec)) markShufflesCard

/-- THE SECOND FORM's CARD OF 'stadionlaw01.MarkShuffles'. -/
def markShufflesUptoCard : Claim7 := { stood := { row := markShufflesUptoRow, standIns := [], harness := (true, "a30f00fea0aea38083159ea778971956f88aa40659c5ba3e9c85c3db178e7e8e"), looks := true }, kinds := [], alts := [], laidByText := true, laidKinds := [.data, .data, .data, .data, .sentinel, .sentinel, .pinned], laidTests := true, laidLooks := .later }
def MarkShufflesUptoCardSaid : Prop := Claim7.holds Tryz.pinned (.plain (OpenSpec.upto markShufflesSpec)) markShufflesUptoCard
end Rows
end Go.Proofs.YtmemaehfcnphcaaGreatDoor
