/-
  DERIVED. GIVEN WITH THE SEED: THE CARDS: each row of YtbbaajlabpjnlabGreatDoorRows.lean that lists a variable, with what it lists TIED to the program's text (the seventh form; the later family's looks); each row that meets fmt, with fmt's text TOLD by the authors' own Lean function (tested against real Go, not proved from fmt's source: count such statements apart). THE CARD IS WHAT COUNTS. Prove the row's statement (the work); the ties are given (YtbbaajlabpjnlabGreatDoorTie.lean); close each card by the builder's one call (the guide's Derived/Test/ToyasCard.lean, 'card_holds'). Laid BY PROGRAM, IN A SANDBOX (cutbox-door.mjs). By AI agents, Wed Nov 11 2026. No macro, syntax, notation, axiom, sorry.
-/
import Derived.Test.YtbbaajlabpjnlabGreatDoorRows
import GoSem.ClaimSeven
namespace Go.Proofs.YtbbaajlabpjnlabGreatDoor
namespace Rows

/-- THE TIED CARD OF 'conduitlaw05.HeadMemory'. -/
def headMemoryCard : Claim7 := { stood := { row := headMemoryRow, standIns := [], harness := (true, "3b521aac95a4177cbf28fb54e3f3d4e30e0d001189d9755f404c1311c36f3af2"), looks := false }, kinds := [], alts := [], laidByText := true, laidKinds := [.data, .data, .data, .data, .pinned], laidTests := true, laidLooks := .later }
def HeadMemoryCardSaid : Prop := Claim7.holds Tryz.pinned (.plain (OpenSpec.ofChange headMemorySpec)) headMemoryCard

/-- THE SECOND FORM's CARD OF 'conduitlaw05.HeadMemory'. -/
def headMemoryUptoCard : Claim7 := { stood := { row := headMemoryUptoRow, standIns := [], harness := (true, "3b521aac95a4177cbf28fb54e3f3d4e30e0d001189d9755f404c1311c36f3af2"), looks := false }, kinds := [], alts := [], laidByText := true, laidKinds := [.data, .data, .data, .data, .pinned], laidTests := true, laidLooks := .later }
def HeadMemoryUptoCardSaid : Prop := Claim7.holds Tryz.pinned (.plain (OpenSpec.upto headMemorySpec)) headMemoryUptoCard
end Rows
end Go.Proofs.YtbbaajlabpjnlabGreatDoor
