/-
  DERIVED. GIVEN WITH THE SEED: THE CARDS: each row of YtikokjclhpgocabDoorRows.lean that lists a variable, with what it lists TIED to the program's text (the seventh form; the later family's looks); each row that meets fmt, with fmt's text TOLD by the authors' own Lean function (tested against real Go, not proved from fmt's source: count such statements apart). THE CARD IS WHAT COUNTS. Prove the row's statement (the work); the ties are given (YtikokjclhpgocabDoorTie.lean); close each card by the builder's one call (the guide's Derived/Test/ToyasCard.lean, 'card_holds'). Laid BY PROGRAM, IN A SANDBOX (cutbox-door.mjs). By AI agents, Wed Nov 11 2026. No macro, syntax, notation, axiom, sorry.
-/
import Derived.Test.YtikokjclhpgocabDoorRows
import GoSem.ClaimSeven
namespace Go.Proofs.YtikokjclhpgocabDoor
namespace Rows

/-- THE TIED CARD OF 'conduitlaw18.ValidMemory'. -/
def validMemoryCard : Claim7 := { stood := { row := validMemoryRow, standIns := [], harness := (true, "77405547f5425a77180d43b8aed4c1eba27b9a5e835f181b84a793fa77af32a6"), looks := false }, kinds := [], alts := [], laidByText := true, laidKinds := [.data, .data, .data], laidTests := true, laidLooks := .later }
def ValidMemoryCardSaid : Prop := Claim7.holds Tryd.pinned (.plain (OpenSpec.ofChange validMemorySpec)) validMemoryCard

/-- THE SECOND FORM's CARD OF 'conduitlaw18.ValidMemory'. -/
def validMemoryUptoCard : Claim7 := { stood := { row := validMemoryUptoRow, standIns := [], harness := (true, "77405547f5425a77180d43b8aed4c1eba27b9a5e835f181b84a793fa77af32a6"), looks := false }, kinds := [], alts := [], laidByText := true, laidKinds := [.data, .data, .data], laidTests := true, laidLooks := .later }
def ValidMemoryUptoCardSaid : Prop := Claim7.holds Tryd.pinned (.plain (OpenSpec.upto validMemorySpec)) validMemoryUptoCard
end Rows
end Go.Proofs.YtikokjclhpgocabDoor
