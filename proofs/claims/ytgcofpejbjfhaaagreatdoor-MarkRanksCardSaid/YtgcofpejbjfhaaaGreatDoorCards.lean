/-
  DERIVED. GIVEN WITH THE SEED: THE CARDS: each row of YtgcofpejbjfhaaaGreatDoorRows.lean that lists a variable, with what it lists TIED to the program's text (the seventh form; the later family's looks); each row that meets fmt, with fmt's text TOLD by the authors' own Lean function (tested against real Go, not proved from fmt's source: count such statements apart). THE CARD IS WHAT COUNTS. Prove the row's statement (the work); the ties are given (YtgcofpejbjfhaaaGreatDoorTie.lean); close each card by the builder's one call (the guide's Derived/Test/ToyasCard.lean, 'card_holds'). Laid BY PROGRAM, IN A SANDBOX (cutbox-door.mjs). By AI agents, Wed Nov 11 2026. No macro, syntax, notation, axiom, sorry.
-/
import Derived.Test.YtgcofpejbjfhaaaGreatDoorRows
import GoSem.ClaimSeven
namespace Go.Proofs.YtgcofpejbjfhaaaGreatDoor
namespace Rows

/-- THE TIED CARD OF 'stadionlaw01.MarkDraws'. -/
def markDrawsCard : Claim7 := { stood := { row := markDrawsRow, standIns := [], harness := (true, "54de7cf1f4e15391c0eb1935cf42105080bdb921a5507310194ecdd52e85d39d"), looks := true }, kinds := [], alts := [], laidByText := true, laidKinds := [.data, .data, .data, .data, .sentinel, .sentinel, .pinned], laidTests := true, laidLooks := .later }
def MarkDrawsCardSaid : Prop := Claim7.holds Tryz.pinned (.plain (OpenSpec.ofChange markDrawsSpec)) markDrawsCard

/-- THE TIED CARD OF 'stadionlaw01.MarkChecks'. -/
def markChecksCard : Claim7 := { stood := { row := markChecksRow, standIns := [], harness := (true, "54de7cf1f4e15391c0eb1935cf42105080bdb921a5507310194ecdd52e85d39d"), looks := true }, kinds := [], alts := [], laidByText := true, laidKinds := [.data, .data, .data, .data, .sentinel, .sentinel, .pinned], laidTests := true, laidLooks := .later }
def MarkChecksCardSaid : Prop := Claim7.holds Tryz.pinned (.plain (OpenSpec.ofChange markChecksSpec)) markChecksCard

/-- THE TIED CARD OF 'stadionlaw01.MarkRanks'. -/
def markRanksCard : Claim7 := { stood := { row := markRanksRow, standIns := [], harness := (true, "54de7cf1f4e15391c0eb1935cf42105080bdb921a5507310194ecdd52e85d39d"), looks := true }, kinds := [], alts := [], laidByText := true, laidKinds := [.data, .data, .data, .data, .sentinel, .sentinel, .pinned], laidTests := true, laidLooks := .later }
def MarkRanksCardSaid : Prop := Claim7.holds Tryz.pinned (.plain (OpenSpec.ofChange markRanksSpec)) markRanksCard

/-- THE TIED CARD OF 'stadionlaw01.MarkRounds'. -/
def markRoundsCard : Claim7 := { stood := { row := markRoundsRow, standIns := [], harness := (true, "54de7cf1f4e15391c0eb1935cf42105080bdb921a5507310194ecdd52e85d39d"), looks := true }, kinds := [], alts := [], laidByText := true, laidKinds := [.data, .data, .data, .data, .sentinel, .sentinel, .pinned], laidTests := true, laidLooks := .later }
def MarkRoundsCardSaid : Prop := Claim7.holds Tryz.pinned (.plain (OpenSpec.ofChange markRoundsSpec)) markRoundsCard

/-- THE TIED CARD OF 'stadionlaw01.MarkPreorder'. -/
def markPreorderCard : Claim7 := { stood := { row := markPreorderRow, standIns := [], harness := (true, "54de7cf1f4e15391c0eb1935cf42105080bdb921a5507310194ecdd52e85d39d"), looks := true }, kinds := [], alts := [], laidByText := true, laidKinds := [.data, .data, .data, .data, .sentinel, .sentinel, .pinned], laidTests := true, laidLooks := .later }
def MarkPreorderCardSaid : Prop := Claim7.holds Tryz.pinned (.plain (OpenSpec.ofChange markPreorderSpec)) markPreorderCard

/-- THE SECOND FORM's CARD OF 'stadionlaw01.MarkDraws'. -/
def markDrawsUptoCard : Claim7 := { stood := { row := markDrawsUptoRow, standIns := [], harness := (true, "54de7cf1f4e15391c0eb1935cf42105080bdb921a5507310194ecdd52e85d39d"), looks := true }, kinds := [], alts := [], laidByText := true, laidKinds := [.data, .data, .data, .data, .sentinel, .sentinel, .pinned], laidTests := true, laidLooks := .later }
def MarkDrawsUptoCardSaid : Prop := Claim7.holds Tryz.pinned (.plain (OpenSpec.upto markDrawsSpec)) markDrawsUptoCard

/-- THE SECOND FORM's CARD OF 'stadionlaw01.MarkChecks'. -/
def markChecksUptoCard : Claim7 := { stood := { row := markChecksUptoRow, standIns := [], harness := (true, "54de7cf1f4e15391c0eb1935cf42105080bdb921a5507310194ecdd52e85d39d"), looks := true }, kinds := [], alts := [], laidByText := true, laidKinds := [.data, .data, .data, .data, .sentinel, .sentinel, .pinned], laidTests := true, laidLooks := .later }
def MarkChecksUptoCardSaid : Prop := Claim7.holds Tryz.pinned (.plain (OpenSpec.upto markChecksSpec)) markChecksUptoCard

/-- THE SECOND FORM's CARD OF 'stadionlaw01.MarkRanks'. -/
def markRanksUptoCard : Claim7 := { stood := { row := markRanksUptoRow, standIns := [], harness := (true, "54de7cf1f4e15391c0eb1935cf42105080bdb921a5507310194ecdd52e85d39d"), looks := true }, kinds := [], alts := [], laidByText := true, laidKinds := [.data, .data, .data, .data, .sentinel, .sentinel, .pinned], laidTests := true, laidLooks := .later }
def MarkRanksUptoCardSaid : Prop := Claim7.holds Tryz.pinned (.plain (OpenSpec.upto markRanksSpec)) markRanksUptoCard

/-- THE SECOND FORM's CARD OF 'stadionlaw01.MarkRounds'. -/
def markRoundsUptoCard : Claim7 := { stood := { row := markRoundsUptoRow, standIns := [], harness := (true, "54de7cf1f4e15391c0eb1935cf42105080bdb921a5507310194ecdd52e85d39d"), looks := true }, kinds := [], alts := [], laidByText := true, laidKinds := [.data, .data, .data, .data, .sentinel, .sentinel, .pinned], laidTests := true, laidLooks := .later }
def MarkRoundsUptoCardSaid : Prop := Claim7.holds Tryz.pinned (.plain (OpenSpec.upto markRoundsSpec)) markRoundsUptoCard

/-- THE SECOND FORM's CARD OF 'stadionlaw01.MarkPreorder'. -/
def markPreorderUptoCard : Claim7 := { stood := { row := markPreorderUptoRow, standIns := [], harness := (true, "54de7cf1f4e15391c0eb1935cf42105080bdb921a5507310194ecdd52e85d39d"), looks := true }, kinds := [], alts := [], laidByText := true, laidKinds := [.data, .data, .data, .data, .sentinel, .sentinel, .pinned], laidTests := true, laidLooks := .later }
def MarkPreorderUptoCardSaid : Prop := Claim7.holds Tryz.pinned (.plain (OpenSpec.upto markPreorderSpec)) markPreorderUptoCard
end Rows
end Go.Proofs.YtgcofpejbjfhaaaGreatDoor
