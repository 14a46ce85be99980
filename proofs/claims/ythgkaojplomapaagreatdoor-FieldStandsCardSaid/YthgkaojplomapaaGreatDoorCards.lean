/-
  DERIVED. GIVEN WITH THE SEED: THE CARDS: each row of YthgkaojplomapaaGreatDoorRows.lean that lists a variable, with what it lists TIED to the program's text (the seventh form; the later family's looks); each row that meets fmt, with fmt's text TOLD by the authors' own Lean function (tested against real Go, not proved from fmt's source: count such statements apart). THE CARD IS WHAT COUNTS. Prove the row's statement (the work); the ties are given (YthgkaojplomapaaGreatDoorTie.lean); close each card by the builder's one call (the guide's Derived/Test/ToyasCard.lean, 'card_holds'). Laid BY PROGRAM, IN A SANDBOX (cutbox-door.mjs). By AI agents, Wed Nov 11 2026. No macro, syntax, notation, axiom, sorry.
-/
import Derived.Test.YthgkaojplomapaaGreatDoorRows
import GoSem.ClaimSeven
namespace Go.Proofs.YthgkaojplomapaaGreatDoor
namespace Rows

/-- THE TIED CARD OF 'stadionlaw06.FieldStands'. -/
def fieldStandsCard : Claim7 := { stood := { row := fieldStandsRow, standIns := [], harness := (true, "95729a56e62e79d854c293736f4049fe8f50b7fbfd7b6f2e82bd50572fd16414"), looks := true }, kinds := [], alts := [], laidByText := true, laidKinds := [.data, .data, .data, .data, .sentinel, .sentinel, .pinned], laidTests := true, laidLooks := .later }
def FieldStandsCardSaid : Prop := Claim7.holds Tryz.pinned (.plain (OpenSpec.ofChange fieldStandsSpec)) fieldStandsCard

/-- THE TIED CARD OF 'stadionlaw06.FieldImproves'. -/
def fieldImprovesCard : Claim7 := { stood := { row := fieldImprovesRow, standIns := [], harness := (true, "95729a56e62e79d854c293736f4049fe8f50b7fbfd7b6f2e82bd50572fd16414"), looks := true }, kinds := [], alts := [], laidByText := true, laidKinds := [.data, .data, .data, .data, .sentinel, .sentinel, .pinned], laidTests := true, laidLooks := .later }
def FieldImprovesCardSaid : Prop := Claim7.holds Tryz.pinned (.plain (OpenSpec.ofChange fieldImprovesSpec)) fieldImprovesCard

/-- THE TIED CARD OF 'stadionlaw06.FieldOrders'. -/
def fieldOrdersCard : Claim7 := { stood := { row := fieldOrdersRow, standIns := [], harness := (true, "95729a56e62e79d854c293736f4049fe8f50b7fbfd7b6f2e82bd50572fd16414"), looks := true }, kinds := [], alts := [], laidByText := true, laidKinds := [.data, .data, .data, .data, .sentinel, .sentinel, .pinned], laidTests := true, laidLooks := .later }
def FieldOrdersCardSaid : Prop := Claim7.holds Tryz.pinned (.plain (OpenSpec.ofChange fieldOrdersSpec)) fieldOrdersCard

/-- THE SECOND FORM's CARD OF 'stadionlaw06.FieldStands'. -/
def fieldStandsUptoCard : Claim7 := { stood := { row := fieldStandsUptoRow, standIns := [], harness := (true, "95729a56e62e79d854c293736f4049fe8f50b7fbfd7b6f2e82bd50572fd16414"), looks := true }, kinds := [], alts := [], laidByText := true, laidKinds := [.data, .data, .data, .data, .sentinel, .sentinel, .pinned], laidTests := true, laidLooks := .later }
def FieldStandsUptoCardSaid : Prop := Claim7.holds Tryz.pinned (.plain (OpenSpec.upto fieldStandsSpec)) fieldStandsUptoCard

/-- THE SECOND FORM's CARD OF 'stadionlaw06.FieldImproves'. -/
def fieldImprovesUptoCard : Claim7 := { stood := { row := fieldImprovesUptoRow, standIns := [], harness := (true, "95729a56e62e79d854c293736f4049fe8f50b7fbfd7b6f2e82bd50572fd16414"), looks := true }, kinds := [], alts := [], laidByText := true, laidKinds := [.data, .data, .data, .data, .sentinel, .sentinel, .pinned], laidTests := true, laidLooks := .later }
def FieldImprovesUptoCardSaid : Prop := Claim7.holds Tryz.pinned (.plain (OpenSpec.upto fieldImprovesSpec)) fieldImprovesUptoCard

/-- THE SECOND FORM's CARD OF 'stadionlaw06.FieldOrders'. -/
def fieldOrdersUptoCard : Claim7 := { stood := { row := fieldOrdersUptoRow, standIns := [], harness := (true, "95729a56e62e79d854c293736f4049fe8f50b7fbfd7b6f2e82bd50572fd16414"), looks := true }, kinds := [], alts := [], laidByText := true, laidKinds := [.data, .data, .data, .data, .sentinel, .sentinel, .pinned], laidTests := true, laidLooks := .later }
def FieldOrdersUptoCardSaid : Prop := Claim7.holds Tryz.pinned (.plain (OpenSpec.upto fieldOrdersSpec)) fieldOrdersUptoCard
end Rows
end Go.Proofs.YthgkaojplomapaaGreatDoor
