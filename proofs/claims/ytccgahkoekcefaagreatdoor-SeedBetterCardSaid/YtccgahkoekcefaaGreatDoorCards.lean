/-
  DERIVED. GIVEN WITH THE SEED: THE CARDS: each row of YtccgahkoekcefaaGreatDoorRows.lean that lists a variable, with what it lists TIED to the program's text (the seventh form; the later family's looks); each row that meets fmt, with fmt's text TOLD by the authors' own Lean function (tested against real Go, not proved from fmt's source: count such statements apart). THE CARD IS WHAT COUNTS. Prove the row's statement (the work); the ties are given (YtccgahkoekcefaaGreatDoorTie.lean); close each card by the builder's one call (the guide's Derived/Test/ToyasCard.lean, 'card_holds'). Laid BY PROGRAM, IN A SANDBOX (cutbox-door.mjs). By AI agents, Wed Nov 11 2026. No macro, syntax, notation, axiom, sorry.
-/
import Derived.Test.YtccgahkoekcefaaGreatDoorRows
import GoSem.ClaimSeven
namespace Go.Proofs.YtccgahkoekcefaaGreatDoor
namespace Rows

/-- THE TIED CARD OF 'stadionlaw04.SeedOrders'. -/
def seedOrdersCard : Claim7 := { stood := { row := seedOrdersRow, standIns := [], harness := (true, "a3746435fa6f75b9e0e3bba3cc89ba2bbc6e0123ef06578c244dda2565017a22"), looks := true }, kinds := [], alts := [], laidByText := true, laidKinds := [.data, .data, .data, .data, .sentinel, .sentinel, .pinned], laidTests := true, laidLooks := .later }
def SeedOrdersCardSaid : Prop := Claim7.holds Tryz.pinned (.plain (OpenSpec.ofChange seedOrdersSpec)) seedOrdersCard

/-- THE TIED CARD OF 'stadionlaw04.SeedClashes'. -/
def seedClashesCard : Claim7 := { stood := { row := seedClashesRow, standIns := [], harness := (true, "a3746435fa6f75b9e0e3bba3cc89ba2bbc6e0123ef06578c244dda2565017a22"), looks := true }, kinds := [], alts := [], laidByText := true, laidKinds := [.data, .data, .data, .data, .sentinel, .sentinel, .pinned], laidTests := true, laidLooks := .later }
def SeedClashesCardSaid : Prop := Claim7.holds Tryz.pinned (.plain (OpenSpec.ofChange seedClashesSpec)) seedClashesCard

/-- THE TIED CARD OF 'stadionlaw04.SeedParts'. -/
def seedPartsCard : Claim7 := { stood := { row := seedPartsRow, standIns := [], harness := (true, "a3746435fa6f75b9e0e3bba3cc89ba2bbc6e0123ef06578c244dda2565017a22"), looks := true }, kinds := [], alts := [], laidByText := true, laidKinds := [.data, .data, .data, .data, .sentinel, .sentinel, .pinned], laidTests := true, laidLooks := .later }
def SeedPartsCardSaid : Prop := Claim7.holds Tryz.pinned (.plain (OpenSpec.ofChange seedPartsSpec)) seedPartsCard

/-- THE TIED CARD OF 'stadionlaw04.SeedFair'. -/
def seedFairCard : Claim7 := { stood := { row := seedFairRow, standIns := [], harness := (true, "a3746435fa6f75b9e0e3bba3cc89ba2bbc6e0123ef06578c244dda2565017a22"), looks := true }, kinds := [], alts := [], laidByText := true, laidKinds := [.data, .data, .data, .data, .sentinel, .sentinel, .pinned], laidTests := true, laidLooks := .later }
def SeedFairCardSaid : Prop := Claim7.holds Tryz.pinned (.plain (OpenSpec.ofChange seedFairSpec)) seedFairCard

/-- THE TIED CARD OF 'stadionlaw04.SeedBetter'. -/
def seedBetterCard : Claim7 := { stood := { row := seedBetterRow, standIns := [], harness := (true, "a3746435fa6f75b9e0e3bba3cc89ba2bbc6e0123ef06578c244dda2565017a22"), looks := true }, kinds := [], alts := [], laidByText := true, laidKinds := [.data, .data, .data, .data, .sentinel, .sentinel, .pinned], laidTests := true, laidLooks := .later }
def SeedBetterCardSaid : Prop := Claim7.holds Tryz.pinned (.plain (OpenSpec.ofChange seedBetterSpec)) seedBetterCard

/-- THE SECOND FORM's CARD OF 'stadionlaw04.SeedOrders'. -/
def seedOrdersUptoCard : Claim7 := { stood := { row := seedOrdersUptoRow, standIns := [], harness := (true, "a3746435fa6f75b9e0e3bba3cc89ba2bbc6e0123ef06578c244dda2565017a22"), looks := true }, kinds := [], alts := [], laidByText := true, laidKinds := [.data, .data, .data, .data, .sentinel, .sentinel, .pinned], laidTests := true, laidLooks := .later }
def SeedOrdersUptoCardSaid : Prop := Claim7.holds Tryz.pinned (.plain (OpenSpec.upto seedOrdersSpec)) seedOrdersUptoCard

/-- THE SECOND FORM's CARD OF 'stadionlaw04.SeedClashes'. -/
def seedClashesUptoCard : Claim7 := { stood := { row := seedClashesUptoRow, standIns := [], harness := (true, "a3746435fa6f75b9e0e3bba3cc89ba2bbc6e0123ef06578c244dda2565017a22"), looks := true }, kinds := [], alts := [], laidByText := true, laidKinds := [.data, .data, .data, .data, .sentinel, .sentinel, .pinned], laidTests := true, laidLooks := .later }
def SeedClashesUptoCardSaid : Prop := Claim7.holds Tryz.pinned (.plain (OpenSpec.upto seedClashesSpec)) seedClashesUptoCard

/-- THE SECOND FORM's CARD OF 'stadionlaw04.SeedParts'. -/
def seedPartsUptoCard : Claim7 := { stood := { row := seedPartsUptoRow, standIns := [], harness := (true, "a3746435fa6f75b9e0e3bba3cc89ba2bbc6e0123ef06578c244dda2565017a22"), looks := true }, kinds := [], alts := [], laidByText := true, laidKinds := [.data, .data, .data, .data, .sentinel, .sentinel, .pinned], laidTests := true, laidLooks := .later }
def SeedPartsUptoCardSaid : Prop := Claim7.holds Tryz.pinned (.plain (OpenSpec.upto seedPartsSpec)) seedPartsUptoCard

/-- THE SECOND FORM's CARD OF 'stadionlaw04.SeedFair'. -/
def seedFairUptoCard : Claim7 := { stood := { row := seedFairUptoRow, standIns := [], harness := (true, "a3746435fa6f75b9e0e3bba3cc89ba2bbc6e0123ef06578c244dda2565017a22"), looks := true }, kinds := [], alts := [], laidByText := true, laidKinds := [.data, .data, .data, .data, .sentinel, .sentinel, .pinned], laidTests := true, laidLooks := .later }
def SeedFairUptoCardSaid : Prop := Claim7.holds Tryz.pinned (.plain (OpenSpec.upto seedFairSpec)) seedFairUptoCard

/-- THE SECOND FORM's CARD OF 'stadionlaw04.SeedBetter'. -/
def seedBetterUptoCard : Claim7 := { stood := { row := seedBetterUptoRow, standIns := [], harness := (true, "a3746435fa6f75b9e0e3bba3cc89ba2bbc6e0123ef06578c244dda2565017a22"), looks := true }, kinds := [], alts := [], laidByText := true, laidKinds := [.data, .data, .data, .data, .sentinel, .sentinel, .pinned], laidTests := true, laidLooks := .later }
def SeedBetterUptoCardSaid : Prop := Claim7.holds Tryz.pinned (.plain (OpenSpec.upto seedBetterSpec)) seedBetterUptoCard
end Rows
end Go.Proofs.YtccgahkoekcefaaGreatDoor
