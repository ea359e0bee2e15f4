/-
  DERIVED. GIVEN WITH THE SEED: THE CARDS: each row of YtegdbieieacalabDoorRows.lean that lists a variable, with what it lists TIED to the program's text (the seventh form; the later family's looks); each row that meets fmt, with fmt's text TOLD by the authors' own Lean function (tested against real Go, not proved from fmt's source: count such statements apart). THE CARD IS WHAT COUNTS. Prove the row's statement (the work); the ties are given (YtegdbieieacalabDoorTie.lean); close each card by the builder's one call (the guide's Derived/Test/ToyasCard.lean, 'card_holds'). Laid BY PROGRAM, IN A SANDBOX (cutbox-door.mjs). By AI agents, Wed Nov 11 2026. No macro, syntax, notation, axiom, sorry.
-/
import Derived.Test.YtegdbieieacalabDoorRows
import GoSem.ClaimSeven
namespace Go.Proofs.YtegdbieieacalabDoor
namespace Rows

/-- THE TIED CARD OF 'conduitlaw01.TokJoins'. -/
def tokJoinsCard : Claim7 := { stood := { row := tokJoinsRow, standIns := [], harness := (true, "cbe6069c2b5c4dcfb8a3a1a6568281e1ecaaa533deaf8a6dbb2c502dd24f23c8"), looks := false }, kinds := [], alts := [], laidByText := true, laidKinds := [.data, .pinned], laidTests := true, laidLooks := .later }
def TokJoinsCardSaid : Prop := Claim7.holds Tryd.pinned (.plain (OpenSpec.ofChange tokJoinsSpec)) tokJoinsCard

/-- THE TIED CARD OF 'conduitlaw01.TokTidy'. -/
def tokTidyCard : Claim7 := { stood := { row := tokTidyRow, standIns := [], harness := (true, "cbe6069c2b5c4dcfb8a3a1a6568281e1ecaaa533deaf8a6dbb2c502dd24f23c8"), looks := false }, kinds := [], alts := [], laidByText := true, laidKinds := [.data, .pinned], laidTests := true, laidLooks := .later }
def TokTidyCardSaid : Prop := Claim7.holds Tryd.pinned (.plain (OpenSpec.ofChange tokTidySpec)) tokTidyCard

/-- THE TIED CARD OF 'conduitlaw01.TokMemory'. -/
def tokMemoryCard : Claim7 := { stood := { row := tokMemoryRow, standIns := [], harness := (true, "cbe6069c2b5c4dcfb8a3a1a6568281e1ecaaa533deaf8a6dbb2c502dd24f23c8"), looks := false }, kinds := [], alts := [], laidByText := true, laidKinds := [.data, .pinned], laidTests := true, laidLooks := .later }
def TokMemoryCardSaid : Prop := Claim7.holds Tryd.pinned (.plain (OpenSpec.ofChange tokMemorySpec)) tokMemoryCard

/-- THE SECOND FORM's CARD OF 'conduitlaw01.TokJoins'. -/
def tokJoinsUptoCard : Claim7 := { stood := { row := tokJoinsUptoRow, standIns := [], harness := (true, "cbe6069c2b5c4dcfb8a3a1a6568281e1ecaaa533deaf8a6dbb2c502dd24f23c8"), looks := false }, kinds := [], alts := [], laidByText := true, laidKinds := [.data, .pinned], laidTests := true, laidLooks := .later }
def TokJoinsUptoCardSaid : Prop := Claim7.holds Tryd.pinned (.plain (OpenSpec.upto tokJoinsSpec)) tokJoinsUptoCard

/-- THE SECOND FORM's CARD OF 'conduitlaw01.TokTidy'. -/
def tokTidyUptoCard : Claim7 := { stood := { row := tokTidyUptoRow, standIns := [], harness := (true, "cbe6069c2b5c4dcfb8a3a1a6568281e1ecaaa533deaf8a6dbb2c502dd24f23c8"), looks := false }, kinds := [], alts := [], laidByText := true, laidKinds := [.data, .pinned], laidTests := true, laidLooks := .later }
def TokTidyUptoCardSaid : Prop := Claim7.holds Tryd.pinned (.plain (OpenSpec.upto tokTidySpec)) tokTidyUptoCard

/-- THE SECOND FORM's CARD OF 'conduitlaw01.TokMemory'. -/
def tokMemoryUptoCard : Claim7 := { stood := { row := tokMemoryUptoRow, standIns := [], harness := (true, "cbe6069c2b5c4dcfb8a3a1a6568281e1ecaaa533deaf8a6dbb2c502dd24f23c8"), looks := false }, kinds := [], alts := [], laidByText := true, laidKinds := [.data, .pinned], laidTests := true, laidLooks := .later }
def TokMemoryUptoCardSaid : Prop := Claim7.holds Tryd.pinned (.plain (OpenSpec.upto tokMemorySpec)) tokMemoryUptoCard
end Rows
end Go.Proofs.YtegdbieieacalabDoor
