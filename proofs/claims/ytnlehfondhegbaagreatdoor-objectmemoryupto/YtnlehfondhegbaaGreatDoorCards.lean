/-
  DERIVED. GIVEN WITH THE SEED: THE CARDS: each row of YtnlehfondhegbaaGreatDoorRows.lean that lists a variable, with what it lists TIED to the program's text (the seventh form; the later family's looks); each row that meets fmt, with fmt's text TOLD by the authors' own Lean function (tested against real Go, not proved from fmt's source: count such statements apart). THE CARD IS WHAT COUNTS. Prove the row's statement (the work); the ties are given (YtnlehfondhegbaaGreatDoorTie.lean); close each card by the builder's one call (the guide's Derived/Test/ToyasCard.lean, 'card_holds'). Laid BY PROGRAM, IN A SANDBOX (cutbox-door.mjs). By AI agents, Wed Nov 11 2026. No macro, syntax, notation, axiom, sorry.
-/
import Derived.Test.YtnlehfondhegbaaGreatDoorRows
import GoSem.ClaimSeven
namespace Go.Proofs.YtnlehfondhegbaaGreatDoor
namespace Rows

/-- THE TIED CARD OF 'conduitlaw12.ObjectDecodes'. -/
def objectDecodesCard : Claim7 := { stood := { row := objectDecodesRow, standIns := [], harness := (true, "8c60e1ad5c283de6ec28b59fbeb73febbc0f68b153126c406c5b61905f5e1fef"), looks := true }, kinds := [], alts := [], laidByText := true, laidKinds := [.data, .data, .data, .data, .sentinel, .sentinel, .pinned], laidTests := true, laidLooks := .later }
def ObjectDecodesCardSaid : Prop := Claim7.holds Tryz.pinned (.plain (OpenSpec.ofChange objectDecodesSpec)) objectDecodesCard

/-- THE TIED CARD OF 'conduitlaw12.ObjectRound'. -/
def objectRoundCard : Claim7 := { stood := { row := objectRoundRow, standIns := [], harness := (true, "8c60e1ad5c283de6ec28b59fbeb73febbc0f68b153126c406c5b61905f5e1fef"), looks := true }, kinds := [], alts := [], laidByText := true, laidKinds := [.data, .data, .data, .data, .sentinel, .sentinel, .pinned], laidTests := true, laidLooks := .later }
def ObjectRoundCardSaid : Prop := Claim7.holds Tryz.pinned (.plain (OpenSpec.ofChange objectRoundSpec)) objectRoundCard

/-- THE TIED CARD OF 'conduitlaw12.ObjectTells'. -/
def objectTellsCard : Claim7 := { stood := { row := objectTellsRow, standIns := [], harness := (true, "8c60e1ad5c283de6ec28b59fbeb73febbc0f68b153126c406c5b61905f5e1fef"), looks := true }, kinds := [], alts := [], laidByText := true, laidKinds := [.data, .data, .data, .data, .sentinel, .sentinel, .pinned], laidTests := true, laidLooks := .later }
def ObjectTellsCardSaid : Prop := Claim7.holds Tryz.pinned (.plain (OpenSpec.ofChange objectTellsSpec)) objectTellsCard

/-- THE TIED CARD OF 'conduitlaw12.ObjectMemory'. -/
def objectMemoryCard : Claim7 := { stood := { row := objectMemoryRow, standIns := [], harness := (true, "8c60e1ad5c283de6ec28b59fbeb73febbc0f68b153126c406c5b61905f5e1fef"), looks := true }, kinds := [], alts := [], laidByText := true, laidKinds := [.data, .data, .data, .data, .sentinel, .sentinel, .pinned], laidTests := true, laidLooks := .later }
def ObjectMemoryCardSaid : Prop := Claim7.holds Tryz.pinned (.plain (OpenSpec.ofChange objectMemorySpec)) objectMemoryCard

/-- THE SECOND FORM's CARD OF 'conduitlaw12.ObjectDecodes'. -/
def objectDecodesUptoCard : Claim7 := { stood := { row := objectDecodesUptoRow, standIns := [], harness := (true, "8c60e1ad5c283de6ec28b59fbeb73febbc0f68b153126c406c5b61905f5e1fef"), looks := true }, kinds := [], alts := [], laidByText := true, laidKinds := [.data, .data, .data, .data, .sentinel, .sentinel, .pinned], laidTests := true, laidLooks := .later }
def ObjectDecodesUptoCardSaid : Prop := Claim7.holds Tryz.pinned (.plain (OpenSpec.upto objectDecodesSpec)) objectDecodesUptoCard

/-- THE SECOND FORM's CARD OF 'conduitlaw12.ObjectRound'. -/
def objectRoundUptoCard : Claim7 := { stood := { row := objectRoundUptoRow, standIns := [], harness := (true, "8c60e1ad5c283de6ec28b59fbeb73febbc0f68b153126c406c5b61905f5e1fef"), looks := true }, kinds := [], alts := [], laidByText := true, laidKinds := [.data, .data, .data, .data, .sentinel, .sentinel, .pinned], laidTests := true, laidLooks := .later }
def ObjectRoundUptoCardSaid : Prop := Claim7.holds Tryz.pinned (.plain (OpenSpec.upto objectRoundSpec)) objectRoundUptoCard

/-- THE SECOND FORM's CARD OF 'conduitlaw12.ObjectTells'. -/
def objectTellsUptoCard : Claim7 := { stood := { row := objectTellsUptoRow, standIns := [], harness := (true, "8c60e1ad5c283de6ec28b59fbeb73febbc0f68b153126c406c5b61905f5e1fef"), looks := true }, kinds := [], alts := [], laidByText := true, laidKinds := [.data, .data, .data, .data, .sentinel, .sentinel, .pinned], laidTests := true, laidLooks := .later }
def ObjectTellsUptoCardSaid : Prop := Claim7.holds Tryz.pinned (.plain (OpenSpec.upto objectTellsSpec)) objectTellsUptoCard

/-- THE SECOND FORM's CARD OF 'conduitlaw12.ObjectMemory'. -/
def objectMemoryUptoCard : Claim7 := { stood := { row := objectMemoryUptoRow, standIns := [], harness := (true, "8c60e1ad5c283de6ec28b59fbeb73febbc0f68b153126c406c5b61905f5e1fef"), looks := true }, kinds := [], alts := [], laidByText := true, laidKinds := [.data, .data, .data, .data, .sentinel, .sentinel, .pinned], laidTests := true, laidLooks := .later }
def ObjectMemoryUptoCardSaid : Prop := Claim7.holds Tryz.pinned (.plain (OpenSpec.upto objectMemorySpec)) objectMemoryUptoCard
end Rows
end Go.Proofs.YtnlehfondhegbaaGreatDoor
