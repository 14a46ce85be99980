/-
  DERIVED. GIVEN WITH THE SEED: THE CARDS: each row of YtebehbojbdcclaaGreatDoorRows.lean that lists a variable, with what it lists TIED to the program's text (the seventh form; the later family's looks); each row that meets fmt, with fmt's text TOLD by the authors' own Lean function (tested against real Go, not proved from fmt's source: count such statements apart). THE CARD IS WHAT COUNTS. Prove the row's statement (the work); the ties are given (YtebehbojbdcclaaGreatDoorTie.lean); close each card by the builder's one call (the guide's Derived/Test/ToyasCard.lean, 'card_holds'). Laid BY PROGRAM, IN A SANDBOX (cutbox-door.mjs). By AI agents, Wed Nov 11 2026. No macro, syntax, notation, axiom, sorry.
-/
import Derived.Test.YtebehbojbdcclaaGreatDoorRows
import GoSem.ClaimSeven
namespace Go.Proofs.YtebehbojbdcclaaGreatDoor
namespace Rows

/-- THE TIED CARD OF 'stadionlaw04.SeedLanes'. -/
def seedLanesCard : Claim7 := { stood := { row := seedLanesRow, standIns := [], harness := (true, "67754788455053740f0ed0ad82edf160c9579473642cad724d0ac496ed7bce42"), looks := true }, kinds := [], alts := [], laidByText := true, laidKinds := [.data, .data, .data, .data, .sentinel, .sentinel, .pinned], laidTests := true, laidLooks := .later }
def SeedLanesCardSaid : Prop := Claim7.holds Tryz.pinned (.plain (OpenSpec.ofChange seedLanesSpec)) seedLanesCard

/-- THE TIED CARD OF 'stadionlaw04.SeedCharts'. -/
def seedChartsCard : Claim7 := { stood := { row := seedChartsRow, standIns := [], harness := (true, "67754788455053740f0ed0ad82edf160c9579473642cad724d0ac496ed7bce42"), looks := true }, kinds := [], alts := [], laidByText := true, laidKinds := [.data, .data, .data, .data, .sentinel, .sentinel, .pinned], laidTests := true, laidLooks := .later }
def SeedChartsCardSaid : Prop := Claim7.holds Tryz.pinned (.plain (OpenSpec.ofChange seedChartsSpec)) seedChartsCard

/-- THE TIED CARD OF 'stadionlaw04.SeedZigzags'. -/
def seedZigzagsCard : Claim7 := { stood := { row := seedZigzagsRow, standIns := [], harness := (true, "67754788455053740f0ed0ad82edf160c9579473642cad724d0ac496ed7bce42"), looks := true }, kinds := [], alts := [], laidByText := true, laidKinds := [.data, .data, .data, .data, .sentinel, .sentinel, .pinned], laidTests := true, laidLooks := .later }
def SeedZigzagsCardSaid : Prop := Claim7.holds Tryz.pinned (.plain (OpenSpec.ofChange seedZigzagsSpec)) seedZigzagsCard

/-- THE TIED CARD OF 'stadionlaw04.SeedTracks'. -/
def seedTracksCard : Claim7 := { stood := { row := seedTracksRow, standIns := [], harness := (true, "67754788455053740f0ed0ad82edf160c9579473642cad724d0ac496ed7bce42"), looks := true }, kinds := [], alts := [], laidByText := true, laidKinds := [.data, .data, .data, .data, .sentinel, .sentinel, .pinned], laidTests := true, laidLooks := .later }
def SeedTracksCardSaid : Prop := Claim7.holds Tryz.pinned (.plain (OpenSpec.ofChange seedTracksSpec)) seedTracksCard

/-- THE SECOND FORM's CARD OF 'stadionlaw04.SeedLanes'. -/
def seedLanesUptoCard : Claim7 := { stood := { row := seedLanesUptoRow, standIns := [], harness := (true, "67754788455053740f0ed0ad82edf160c9579473642cad724d0ac496ed7bce42"), looks := true }, kinds := [], alts := [], laidByText := true, laidKinds := [.data, .data, .data, .data, .sentinel, .sentinel, .pinned], laidTests := true, laidLooks := .later }
def SeedLanesUptoCardSaid : Prop := Claim7.holds Tryz.pinned (.plain (OpenSpec.upto seedLanesSpec)) seedLanesUptoCard

/-- THE SECOND FORM's CARD OF 'stadionlaw04.SeedCharts'. -/
def seedChartsUptoCard : Claim7 := { stood := { row := seedChartsUptoRow, standIns := [], harness := (true, "67754788455053740f0ed0ad82edf160c9579473642cad724d0ac496ed7bce42"), looks := true }, kinds := [], alts := [], laidByText := true, laidKinds := [.data, .data, .data, .data, .sentinel, .sentinel, .pinned], laidTests := true, laidLooks := .later }
def SeedChartsUptoCardSaid : Prop := Claim7.holds Tryz.pinned (.plain (OpenSpec.upto seedChartsSpec)) seedChartsUptoCard

/-- THE SECOND FORM's CARD OF 'stadionlaw04.SeedZigzags'. -/
def seedZigzagsUptoCard : Claim7 := { stood := { row := seedZigzagsUptoRow, standIns := [], harness := (true, "67754788455053740f0ed0ad82edf160c9579473642cad724d0ac496ed7bce42"), looks := true }, kinds := [], alts := [], laidByText := true, laidKinds := [.data, .data, .data, .data, .sentinel, .sentinel, .pinned], laidTests := true, laidLooks := .later }
def SeedZigzagsUptoCardSaid : Prop := Claim7.holds Tryz.pinned (.plain (OpenSpec.upto seedZigzagsSpec)) seedZigzagsUptoCard

/-- THE SECOND FORM's CARD OF 'stadionlaw04.SeedTracks'. -/
def seedTracksUptoCard : Claim7 := { stood := { row := seedTracksUptoRow, standIns := [], harness := (true, "67754788455053740f0ed0ad82edf160c9579473642cad724d0ac496ed7bce42"), looks := true }, kinds := [], alts := [], laidByText := true, laidKinds := [.data, .data, .data, .data, .sentinel, .sentinel, .pinned], laidTests := true, laidLooks := .later }
def SeedTracksUptoCardSaid : Prop := Claim7.holds Tryz.pinned (.plain (OpenSpec.upto seedTracksSpec)) seedTracksUptoCard
end Rows
end Go.Proofs.YtebehbojbdcclaaGreatDoor
