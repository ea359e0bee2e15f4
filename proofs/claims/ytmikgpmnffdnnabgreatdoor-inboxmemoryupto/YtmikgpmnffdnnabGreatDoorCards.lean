/-
  DERIVED. GIVEN WITH THE SEED: THE CARDS: each row of YtmikgpmnffdnnabGreatDoorRows.lean that lists a variable, with what it lists TIED to the program's text (the seventh form; the later family's looks); each row that meets fmt, with fmt's text TOLD by the authors' own Lean function (tested against real Go, not proved from fmt's source: count such statements apart). THE CARD IS WHAT COUNTS. Prove the row's statement (the work); the ties are given (YtmikgpmnffdnnabGreatDoorTie.lean); close each card by the builder's one call (the guide's Derived/Test/ToyasCard.lean, 'card_holds'). Laid BY PROGRAM, IN A SANDBOX (cutbox-door.mjs). By AI agents, Wed Nov 11 2026. No macro, syntax, notation, axiom, sorry.
-/
import Derived.Test.YtmikgpmnffdnnabGreatDoorRows
import GoSem.ClaimSeven
namespace Go.Proofs.YtmikgpmnffdnnabGreatDoor
namespace Rows

/-- THE TIED CARD OF 'conduitlaw08.InboxEnds'. -/
def inboxEndsCard : Claim7 := { stood := { row := inboxEndsRow, standIns := [], harness := (true, "f8de03ae0329db50734c620aad1940f8456280ae9ff2d5e5e45a6fac7de306f2"), looks := true }, kinds := [], alts := [], laidByText := true, laidKinds := [.data, .data, .data, .data, .sentinel, .sentinel, .pinned], laidTests := true, laidLooks := .later }
def InboxEndsCardSaid : Prop := Claim7.holds Tryz.pinned (.plain (OpenSpec.ofChange inboxEndsSpec)) inboxEndsCard

/-- THE TIED CARD OF 'conduitlaw08.InboxMemory'. -/
def inboxMemoryCard : Claim7 := { stood := { row := inboxMemoryRow, standIns := [], harness := (true, "f8de03ae0329db50734c620aad1940f8456280ae9ff2d5e5e45a6fac7de306f2"), looks := true }, kinds := [], alts := [], laidByText := true, laidKinds := [.data, .data, .data, .data, .sentinel, .sentinel, .pinned], laidTests := true, laidLooks := .later }
def InboxMemoryCardSaid : Prop := Claim7.holds Tryz.pinned (.plain (OpenSpec.ofChange inboxMemorySpec)) inboxMemoryCard

/-- THE SECOND FORM's CARD OF 'conduitlaw08.InboxEnds'. -/
def inboxEndsUptoCard : Claim7 := { stood := { row := inboxEndsUptoRow, standIns := [], harness := (true, "f8de03ae0329db50734c620aad1940f8456280ae9ff2d5e5e45a6fac7de306f2"), looks := true }, kinds := [], alts := [], laidByText := true, laidKinds := [.data, .data, .data, .data, .sentinel, .sentinel, .pinned], laidTests := true, laidLooks := .later }
def InboxEndsUptoCardSaid : Prop := Claim7.holds Tryz.pinned (.plain (OpenSpec.upto inboxEndsSpec)) inboxEndsUptoCard

/-- THE SECOND FORM's CARD OF 'conduitlaw08.InboxMemory'. -/
def inboxMemoryUptoCard : Claim7 := { stood := { row := inboxMemoryUptoRow, standIns := [], harness := (true, "f8de03ae0329db50734c620aad1940f8456280ae9ff2d5e5e45a6fac7de306f2"), looks := true }, kinds := [], alts := [], laidByText := true, laidKinds := [.data, .data, .data, .data, .sentinel, .sentinel, .pinned], laidTests := true, laidLooks := .later }
def InboxMemoryUptoCardSaid : Prop := Claim7.holds Tryz.pinned (.plain (OpenSpec.upto inboxMemorySpec)) inboxMemoryUptoCard
end Rows
end Go.Proofs.YtmikgpmnffdnnabGreatDoor
