/-
  DERIVED. GIVEN WITH THE SEED: THE CARDS: each row of YtmibgcbolnpffabDoorRows.lean that lists a variable, with what it lists TIED to the program's text (the seventh form; the later family's looks); each row that meets fmt, with fmt's text TOLD by the authors' own Lean function (tested against real Go, not proved from fmt's source: count such statements apart). THE CARD IS WHAT COUNTS. Prove the row's statement (the work); the ties are given (YtmibgcbolnpffabDoorTie.lean); close each card by the builder's one call (the guide's Derived/Test/ToyasCard.lean, 'card_holds'). Laid BY PROGRAM, IN A SANDBOX (cutbox-door.mjs). By AI agents, Wed Nov 11 2026. No macro, syntax, notation, axiom, sorry.
-/
import Derived.Test.YtmibgcbolnpffabDoorRows
import GoSem.ClaimSeven
namespace Go.Proofs.YtmibgcbolnpffabDoor
namespace Rows

/-- THE TIED CARD OF 'conduitlaw17.VaryMemory'. -/
def varyMemoryCard : Claim7 := { stood := { row := varyMemoryRow, standIns := [], harness := (true, "bb42e8e1784bc7e600aa40b6ad14477e5fbfdb5224b60f33b65cc5d80c770554"), looks := false }, kinds := [], alts := [], laidByText := true, laidKinds := [.data, .pinned], laidTests := true, laidLooks := .later }
def VaryMemoryCardSaid : Prop := Claim7.holds Tryd.pinned (.plain (OpenSpec.ofChange varyMemorySpec)) varyMemoryCard

/-- THE SECOND FORM's CARD OF 'conduitlaw17.VaryMemory'. -/
def varyMemoryUptoCard : Claim7 := { stood := { row := varyMemoryUptoRow, standIns := [], harness := (true, "bb42e8e1784bc7e600aa40b6ad14477e5fbfdb5224b60f33b65cc5d80c770554"), looks := false }, kinds := [], alts := [], laidByText := true, laidKinds := [.data, .pinned], laidTests := true, laidLooks := .later }
def VaryMemoryUptoCardSaid : Prop := Claim7.holds Tryd.pinned (.plain (OpenSpec.upto varyMemorySpec)) varyMemoryUptoCard
end Rows
end Go.Proofs.YtmibgcbolnpffabDoor
