/-
  DERIVED. GIVEN WITH THE SEED: THE CARDS: each row of YtkjolejppnogiaaGreatDoorRows.lean that lists a variable, with what it lists TIED to the program's text (the seventh form; the later family's looks); each row that meets fmt, with fmt's text TOLD by the authors' own Lean function (tested against real Go, not proved from fmt's source: count such statements apart). THE CARD IS WHAT COUNTS. Prove the row's statement (the work); the ties are given (YtkjolejppnogiaaGreatDoorTie.lean); close each card by the builder's one call (the guide's Derived/Test/ToyasCard.lean, 'card_holds'). Laid BY PROGRAM, IN A SANDBOX (cutbox-door.mjs). By AI agents, Wed Nov 11 2026. No macro, syntax, notation, axiom, sorry.
-/
import Derived.Test.YtkjolejppnogiaaGreatDoorRows
import GoSem.ClaimSeven
namespace Go.Proofs.YtkjolejppnogiaaGreatDoor
namespace Rows

/-- THE TIED CARD OF 'stadionlaw04.SeedOrders'. -/
def seedOrdersCard : Claim7 := { stood := { row := seedOrdersRow, standIns := [], harness := (true, "45d82bd17764e012a186480bfc29a4e7f6c1983f050eef1c861580d7fa26a1a7"), looks := true }, kinds := [], alts := [], laidByText := true, laidKinds := [.data, .data, .data, .data, .sentinel, .sentinel, .pinned], laidTests := true, laidLooks := .later }
def SeedOrdersCardSaid : Prop := Claim7.holds Tryz.pinned (.plain (OpenSpec.ofChange seedOrdersSpec)) seedOrdersCard

/-- THE TIED CARD OF 'stadionlaw04.SeedClashes'. -/
def seedClashesCard : Claim7 := { stood := { row := seedClashesRow, standIns := [], harness := (true, "45d82bd17764e012a186480bfc29a4e7f6c1983f050eef1c861580d7fa26a1a7"), looks := true }, kinds := [], alts := [], laidByText := true, laidKinds := [.data, .data, .data, .data, .sentinel, .sentinel, .pinned], laidTests := true, laidLooks := .later }
def SeedClashesCardSaid : Prop := Claim7.holds Tryz.pinned (.plain (OpenSpec.ofChange seedClashesSpec)) seedClashesCard

/-- THE TIED CARD OF 'stadionlaw04.SeedPlaces'. -/
def seedPlacesCard : Claim7 := { stood := { row := seedPlacesRow, standIns := [], harness := (true, "45d82bd17764e012a186480bfc29a4e7f6c1983f050eef1c861580d7fa26a1a7"), looks := true }, kinds := [], alts := [], laidByText := true, laidKinds := [.data, .data, .data, .data, .sentinel, .sentinel, .pinned], laidTests := true, laidLooks := .later }
def SeedPlacesCardSaid : Prop := Claim7.holds Tryz.pinned (.plain (OpenSpec.ofChange seedPlacesSpec)) seedPlacesCard

/-- THE TIED CARD OF 'stadionlaw04.SeedChanges'. -/
def seedChangesCard : Claim7 := { stood := { row := seedChangesRow, standIns := [], harness := (true, "45d82bd17764e012a186480bfc29a4e7f6c1983f050eef1c861580d7fa26a1a7"), looks := true }, kinds := [], alts := [], laidByText := true, laidKinds := [.data, .data, .data, .data, .sentinel, .sentinel, .pinned], laidTests := true, laidLooks := .later }
def SeedChangesCardSaid : Prop := Claim7.holds Tryz.pinned (.plain (OpenSpec.ofChange seedChangesSpec)) seedChangesCard

/-- THE TIED CARD OF 'stadionlaw04.SeedOrderless'. -/
def seedOrderlessCard : Claim7 := { stood := { row := seedOrderlessRow, standIns := [], harness := (true, "45d82bd17764e012a186480bfc29a4e7f6c1983f050eef1c861580d7fa26a1a7"), looks := true }, kinds := [], alts := [], laidByText := true, laidKinds := [.data, .data, .data, .data, .sentinel, .sentinel, .pinned], laidTests := true, laidLooks := .later }
def SeedOrderlessCardSaid : Prop := Claim7.holds Tryz.pinned (.plain (OpenSpec.ofChange seedOrderlessSpec)) seedOrderlessCard

/-- THE TIED CARD OF 'stadionlaw04.SeedBetter'. -/
def seedBetterCard : Claim7 := { stood := { row := seedBetterRow, standIns := [], harness := (true, "45d82bd17764e012a186480bfc29a4e7f6c1983f050eef1c861580d7fa26a1a7"), looks := true }, kinds := [], alts := [], laidByText := true, laidKinds := [.data, .data, .data, .data, .sentinel, .sentinel, .pinned], laidTests := true, laidLooks := .later }
def SeedBetterCardSaid : Prop := Claim7.holds Tryz.pinned (.plain (OpenSpec.ofChange seedBetterSpec)) seedBetterCard

/-- THE SECOND FORM's CARD OF 'stadionlaw04.SeedOrders'. -/
def seedOrdersUptoCard : Claim7 := { stood := { row := seedOrdersUptoRow, standIns := [], harness := (true, "45d82bd17764e012a186480bfc29a4e7f6c1983f050eef1c861580d7fa26a1a7"), looks := true }, kinds := [], alts := [], laidByText := true, laidKinds := [.data, .data, .data, .data, .sentinel, .sentinel, .pinned], laidTests := true, laidLooks := .later }
def SeedOrdersUptoCardSaid : Prop := Claim7.holds Tryz.pinned (.plain (OpenSpec.upto seedOrdersSpec)) seedOrdersUptoCard

/-- THE SECOND FORM's CARD OF 'stadionlaw04.SeedClashes'. -/
def seedClashesUptoCard : Claim7 := { stood := { row := seedClashesUptoRow, standIns := [], harness := (true, "45d82bd17764e012a186480bfc29a4e7f6c1983f050eef1c861580d7fa26a1a7"), looks := true }, kinds := [], alts := [], laidByText := true, laidKinds := [.data, .data, .data, .data, .sentinel, .sentinel, .pinned], laidTests := true, laidLooks := .later }
def SeedClashesUptoCardSaid : Prop := Claim7.holds Tryz.pinned (.plain (OpenSpec.upto seedClashesSpec)) seedClashesUptoCard

/-- THE SECOND FORM's CARD OF 'stadionlaw04.SeedPlaces'. -/
def seedPlacesUptoCard : Claim7 := { stood := { row := seedPlacesUptoRow, standIns := [], harness := (true, "45d82bd17764e012a186480bfc29a4e7f6c1983f050eef1c861580d7fa26a1a7"), looks := true }, kinds := [], alts := [], laidByText := true, laidKinds := [.data, .data, .data, .data, .sentinel, .sentinel, .pinned], laidTests := true, laidLooks := .later }
def SeedPlacesUptoCardSaid : Prop := Claim7.holds Tryz.pinned (.plain (OpenSpec.upto seedPlacesSpec)) seedPlacesUptoCard

/-- THE SECOND FORM's CARD OF 'stadionlaw04.SeedChanges'. -/
def seedChangesUptoCard : Claim7 := { stood := { row := seedChangesUptoRow, standIns := [], harness := (true, "45d82bd17764e012a186480bfc29a4e7f6c1983f050eef1c861580d7fa26a1a7"), looks := true }, kinds := [], alts := [], laidByText := true, laidKinds := [.data, .data, .data, .data, .sentinel, .sentinel, .pinned], laidTests := true, laidLooks := .later }
def SeedChangesUptoCardSaid : Prop := Claim7.holds Tryz.pinned (.plain (OpenSpec.upto seedChangesSpec)) seedChangesUptoCard

/-- THE SECOND FORM's CARD OF 'stadionlaw04.SeedOrderless'. -/
def seedOrderlessUptoCard : Claim7 := { stood := { row := seedOrderlessUptoRow, standIns := [], harness := (true, "45d82bd17764e012a186480bfc29a4e7f6c1983f050eef1c861580d7fa26a1a7"), looks := true }, kinds := [], alts := [], laidByText := true, laidKinds := [.data, .data, .data, .data, .sentinel, .sentinel, .pinned], laidTests := true, laidLooks := .later }
def SeedOrderlessUptoCardSaid : Prop := Claim7.holds Tryz.pinned (.plain (OpenSpec.upto seedOrderlessSpec)) seedOrderlessUptoCard

/-- THE SECOND FORM's CARD OF 'stadionlaw04.SeedBetter'. -/
def seedBetterUptoCard : Claim7 := { stood := { row := seedBetterUptoRow, standIns := [], harness := (true, "45d82bd17764e012a186480bfc29a4e7f6c1983f050eef1c861580d7fa26a1a7"), looks := true }, kinds := [], alts := [], laidByText := true, laidKinds := [.data, .data, .data, .data, .sentinel, .sentinel, .pinned], laidTests := true, laidLooks := .later }
def SeedBetterUptoCardSaid : Prop := Claim7.holds Tryz.pinned (.plain (OpenSpec.upto seedBetterSpec)) seedBetterUptoCard
end Rows
end Go.Proofs.YtkjolejppnogiaaGreatDoor
