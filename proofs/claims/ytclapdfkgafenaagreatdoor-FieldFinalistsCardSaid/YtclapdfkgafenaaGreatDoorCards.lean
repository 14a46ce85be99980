/-
  DERIVED. GIVEN WITH THE SEED: THE CARDS: each row of YtclapdfkgafenaaGreatDoorRows.lean that lists a variable, with what it lists TIED to the program's text (the seventh form; the later family's looks); each row that meets fmt, with fmt's text TOLD by the authors' own Lean function (tested against real Go, not proved from fmt's source: count such statements apart). THE CARD IS WHAT COUNTS. Prove the row's statement (the work); the ties are given (YtclapdfkgafenaaGreatDoorTie.lean); close each card by the builder's one call (the guide's Derived/Test/ToyasCard.lean, 'card_holds'). Laid BY PROGRAM, IN A SANDBOX (cutbox-door.mjs). By AI agents, Wed Nov 11 2026. No macro, syntax, notation, axiom, sorry.
-/
import Derived.Test.YtclapdfkgafenaaGreatDoorRows
import GoSem.ClaimSeven
namespace Go.Proofs.YtclapdfkgafenaaGreatDoor
namespace Rows

/-- THE TIED CARD OF 'stadionlaw06.FieldRanks'. -/
def fieldRanksCard : Claim7 := { stood := { row := fieldRanksRow, standIns := [], harness := (true, "05a5a87cbcf80019d8fcbfd6572243cf777d4a5e440eea546240bf69baaca9e8"), looks := true }, kinds := [], alts := [], laidByText := true, laidKinds := [.data, .data, .data, .data, .sentinel, .sentinel, .pinned], laidTests := true, laidLooks := .later }
def FieldRanksCardSaid : Prop := Claim7.holds Tryz.pinned (.plain (OpenSpec.ofChange fieldRanksSpec)) fieldRanksCard

/-- THE TIED CARD OF 'stadionlaw06.FieldFinalists'. -/
def fieldFinalistsCard : Claim7 := { stood := { row := fieldFinalistsRow, standIns := [], harness := (true, "05a5a87cbcf80019d8fcbfd6572243cf777d4a5e440eea546240bf69baaca9e8"), looks := true }, kinds := [], alts := [], laidByText := true, laidKinds := [.data, .data, .data, .data, .sentinel, .sentinel, .pinned], laidTests := true, laidLooks := .later }
def FieldFinalistsCardSaid : Prop := Claim7.holds Tryz.pinned (.plain (OpenSpec.ofChange fieldFinalistsSpec)) fieldFinalistsCard

/-- THE TIED CARD OF 'stadionlaw06.FieldImproves'. -/
def fieldImprovesCard : Claim7 := { stood := { row := fieldImprovesRow, standIns := [], harness := (true, "05a5a87cbcf80019d8fcbfd6572243cf777d4a5e440eea546240bf69baaca9e8"), looks := true }, kinds := [], alts := [], laidByText := true, laidKinds := [.data, .data, .data, .data, .sentinel, .sentinel, .pinned], laidTests := true, laidLooks := .later }
def FieldImprovesCardSaid : Prop := Claim7.holds Tryz.pinned (.plain (OpenSpec.ofChange fieldImprovesSpec)) fieldImprovesCard

/-- THE SECOND FORM's CARD OF 'stadionlaw06.FieldRanks'. -/
def fieldRanksUptoCard : Claim7 := { stood := { row := fieldRanksUptoRow, standIns := [], harness := (true, "05a5a87cbcf80019d8fcbfd6572243cf777d4a5e440eea546240bf69baaca9e8"), looks := true }, kinds := [], alts := [], laidByText := true, laidKinds := [.data, .data, .data, .data, .sentinel, .sentinel, .pinned], laidTests := true, laidLooks := .later }
def FieldRanksUptoCardSaid : Prop := Claim7.holds Tryz.pinned (.plain (OpenSpec.upto fieldRanksSpec)) fieldRanksUptoCard

/-- THE SECOND FORM's CARD OF 'stadionlaw06.FieldFinalists'. -/
def fieldFinalistsUptoCard : Claim7 := { stood := { row := fieldFinalistsUptoRow, standIns := [], harness := (true, "05a5a87cbcf80019d8fcbfd6572243cf777d4a5e440eea546240bf69baaca9e8"), looks := true }, kinds := [], alts := [], laidByText := true, laidKinds := [.data, .data, .data, .data, .sentinel, .sentinel, .pinned], laidTests := true, laidLooks := .later }
def FieldFinalistsUptoCardSaid : Prop := Claim7.holds Tryz.pinned (.plain (OpenSpec.upto fieldFinalistsSpec)) fieldFinalistsUptoCard

/-- THE SECOND FORM's CARD OF 'stadionlaw06.FieldImproves'. -/
def fieldImprovesUptoCard : Claim7 := { stood := { row := fieldImprovesUptoRow, standIns := [], harness := (true, "05a5a87cbcf80019d8fcbfd6572243cf777d4a5e440eea546240bf69baaca9e8"), looks := true }, kinds := [], alts := [], laidByText := true, laidKinds := [.data, .data, .data, .data, .sentinel, .sentinel, .pinned], laidTests := true, laidLooks := .later }
def FieldImprovesUptoCardSaid : Prop := Claim7.holds Tryz.pinned (.plain (OpenSpec.upto fieldImprovesSpec)) fieldImprovesUptoCard
end Rows
end Go.Proofs.YtclapdfkgafenaaGreatDoor
