/-
  DERIVED. GIVEN WITH THE SEED: THE CARDS: each row of YtapglbjojpkblaaGreatDoorRows.lean that lists a variable, with what it lists TIED to the program's text (the seventh form; the later family's looks); each row that meets fmt, with fmt's text TOLD by the authors' own Lean function (tested against real Go, not proved from fmt's source: count such statements apart). THE CARD IS WHAT COUNTS. Prove the row's statement (the work); the ties are given (YtapglbjojpkblaaGreatDoorTie.lean); close each card by the builder's one call (the guide's Derived/Test/ToyasCard.lean, 'card_holds'). Laid BY PROGRAM, IN A SANDBOX (cutbox-door.mjs). By AI agents, Wed Nov 11 2026. No macro, syntax, notation, axiom, sorry.
-/
import Derived.Test.YtapglbjojpkblaaGreatDoorRows
import GoSem.ClaimSeven
namespace Go.Proofs.YtapglbjojpkblaaGreatDoor
namespace Rows

/-- THE TIED CARD OF 'stadionlaw01.MarkPreorder'. -/
def markPreorderCard : Claim7 := { stood := { row := markPreorderRow, standIns := [], harness := (true, "dffed851634b588bb28dd72c43685379aeaf32c7eebdce0338c55016924ba14e"), looks := true }, kinds := [], alts := [], laidByText := true, laidKinds := [.data, .data, .data, .data, .sentinel, .sentinel, .pinned], laidTests := true, laidLooks := .later }
def MarkPreorderCardSaid : Prop := Claim7.holds Tryz.pinned (.plain (OpenSpec.ofChange markPreorderSpec)) markPreorderCard

/-- THE TIED CARD OF 'stadionlaw01.MarkDraws'. -/
def markDrawsCard : Claim7 := { stood := { row := markDrawsRow, standIns := [], harness := (true, "dffed851634b588bb28dd72c43685379aeaf32c7eebdce0338c55016924ba14e"), looks := true }, kinds := [], alts := [], laidByText := true, laidKinds := [.data, .data, .data, .data, .sentinel, .sentinel, .pinned], laidTests := true, laidLooks := .later }
def MarkDrawsCardSaid : Prop := Claim7.holds Tryz.pinned (.plain (OpenSpec.ofChange markDrawsSpec)) markDrawsCard

/-- THE TIED CARD OF 'stadionlaw01.MarkTexts'. -/
def markTextsCard : Claim7 := { stood := { row := markTextsRow, standIns := [], harness := (true, "dffed851634b588bb28dd72c43685379aeaf32c7eebdce0338c55016924ba14e"), looks := true }, kinds := [], alts := [], laidByText := true, laidKinds := [.data, .data, .data, .data, .sentinel, .sentinel, .pinned], laidTests := true, laidLooks := .later }
def MarkTextsCardSaid : Prop := Claim7.holds Tryz.pinned (.plain (OpenSpec.ofChange markTextsSpec)) markTextsCard

/-- THE TIED CARD OF 'stadionlaw01.MarkReads'. -/
def markReadsCard : Claim7 := { stood := { row := markReadsRow, standIns := [], harness := (true, "dffed851634b588bb28dd72c43685379aeaf32c7eebdce0338c55016924ba14e"), looks := true }, kinds := [], alts := [], laidByText := true, laidKinds := [.data, .data, .data, .data, .sentinel, .sentinel, .pinned], laidTests := true, laidLooks := .later }
def MarkReadsCardSaid : Prop := Claim7.holds Tryz.pinned (.plain (OpenSpec.ofChange markReadsSpec)) markReadsCard

/-- THE SECOND FORM's CARD OF 'stadionlaw01.MarkPreorder'. -/
def markPreorderUptoCard : Claim7 := { stood := { row := markPreorderUptoRow, standIns := [], harness := (true, "dffed851634b588bb28dd72c43685379aeaf32c7eebdce0338c55016924ba14e"), looks := true }, kinds := [], alts := [], laidByText := true, laidKinds := [.data, .data, .data, .data, .sentinel, .sentinel, .pinned], laidTests := true, laidLooks := .later }
def MarkPreorderUptoCardSaid : Prop := Claim7.holds Tryz.pinned (.plain (OpenSpec.upto markPreorderSpec)) markPreorderUptoCard

/-- THE SECOND FORM's CARD OF 'stadionlaw01.MarkDraws'. -/
def markDrawsUptoCard : Claim7 := { stood := { row := markDrawsUptoRow, standIns := [], harness := (true, "dffed851634b588bb28dd72c43685379aeaf32c7eebdce0338c55016924ba14e"), looks := true }, kinds := [], alts := [], laidByText := true, laidKinds := [.data, .data, .data, .data, .sentinel, .sentinel, .pinned], laidTests := true, laidLooks := .later }
def MarkDrawsUptoCardSaid : Prop := Claim7.holds Tryz.pinned (.plain (OpenSpec.upto markDrawsSpec)) markDrawsUptoCard

/-- THE SECOND FORM's CARD OF 'stadionlaw01.MarkTexts'. -/
def markTextsUptoCard : Claim7 := { stood := { row := markTextsUptoRow, standIns := [], harness := (true, "dffed851634b588bb28dd72c43685379aeaf32c7eebdce0338c55016924ba14e"), looks := true }, kinds := [], alts := [], laidByText := true, laidKinds := [.data, .data, .data, .data, .sentinel, .sentinel, .pinned], laidTests := true, laidLooks := .later }
def MarkTextsUptoCardSaid : Prop := Claim7.holds Tryz.pinned (.plain (OpenSpec.upto markTextsSpec)) markTextsUptoCard

/-- THE SECOND FORM's CARD OF 'stadionlaw01.MarkReads'. -/
def markReadsUptoCard : Claim7 := { stood := { row := markReadsUptoRow, standIns := [], harness := (true, "dffed851634b588bb28dd72c43685379aeaf32c7eebdce0338c55016924ba14e"), looks := true }, kinds := [], alts := [], laidByText := true, laidKinds := [.data, .data, .data, .data, .sentinel, .sentinel, .pinned], laidTests := true, laidLooks := .later }
def MarkReadsUptoCardSaid : Prop := Claim7.holds Tryz.pinned (.plain (OpenSpec.upto markReadsSpec)) markReadsUptoCard
end Rows
end Go.Proofs.YtapglbjojpkblaaGreatDoor
