/-
  DERIVED. GIVEN WITH THE SEED: THE CARDS: each row of YtipcmbonhkelbabGreatDoorRows.lean that lists a variable, with what it lists TIED to the program's text (the seventh form; the later family's looks); each row that meets fmt, with fmt's text TOLD by the authors' own Lean function (tested against real Go, not proved from fmt's source: count such statements apart). THE CARD IS WHAT COUNTS. Prove the row's statement (the work); the ties are given (YtipcmbonhkelbabGreatDoorTie.lean); close each card by the builder's one call (the guide's Derived/Test/ToyasCard.lean, 'card_holds'). Laid BY PROGRAM, IN A SANDBOX (cutbox-door.mjs). By AI agents, Wed Nov 11 2026. No macro, syntax, notation, axiom, sorry.
-/
import Derived.Test.YtipcmbonhkelbabGreatDoorRows
import GoSem.ClaimSeven
namespace Go.Proofs.YtipcmbonhkelbabGreatDoor
namespace Rows

/-- THE TIED CARD OF 'conduitlaw19.RangesMemory'. -/
def rangesMemoryCard : Claim7 := { stood := { row := rangesMemoryRow, standIns := [], harness := (true, "538193939d49e886bcbe8320c6a4e9dc2dc1708225fad93bef69a1589e633550"), looks := false }, kinds := [], alts := [], laidByText := true, laidKinds := [.data, .data, .data, .data, .data, .data, .data, .pinned], laidTests := true, laidLooks := .later }
def RangesMemoryCardSaid : Prop := Claim7.holds Tryz.pinned (.plain (OpenSpec.ofChange rangesMemorySpec)) rangesMemoryCard

/-- THE SECOND FORM's CARD OF 'conduitlaw19.RangesMemory'. -/
def rangesMemoryUptoCard : Claim7 := { stood := { row := rangesMemoryUptoRow, standIns := [], harness := (true, "538193939d49e886bcbe8320c6a4e9dc2dc1708225fad93bef69a1589e633550"), looks := false }, kinds := [], alts := [], laidByText := true, laidKinds := [.data, .data, .data, .data, .data, .data, .data, .pinned], laidTests := true, laidLooks := .later }
def RangesMemoryUptoCardSaid : Prop := Claim7.holds Tryz.pinned (.plain (OpenSpec.upto rangesMemorySpec)) rangesMemoryUptoCard
end Rows
end Go.Proofs.YtipcmbonhkelbabGreatDoor
