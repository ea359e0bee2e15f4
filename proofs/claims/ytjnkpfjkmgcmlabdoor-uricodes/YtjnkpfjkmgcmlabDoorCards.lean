/-
  DERIVED. GIVEN WITH THE SEED: THE CARDS: each row of YtjnkpfjkmgcmlabDoorRows.lean that lists a variable, with what it lists TIED to the program's text (the seventh form; the later family's looks); each row that meets fmt, with fmt's text TOLD by the authors' own Lean function (tested against real Go, not proved from fmt's source: count such statements apart). THE CARD IS WHAT COUNTS. Prove the row's statement (the work); the ties are given (YtjnkpfjkmgcmlabDoorTie.lean); close each card by the builder's one call (the guide's Derived/Test/ToyasCard.lean, 'card_holds'). Laid BY PROGRAM, IN A SANDBOX (cutbox-door.mjs). By AI agents, Wed Nov 11 2026. No macro, syntax, notation, axiom, sorry.
-/
import Derived.Test.YtjnkpfjkmgcmlabDoorRows
import GoSem.ClaimSeven
namespace Go.Proofs.YtjnkpfjkmgcmlabDoor
namespace Rows

/-- THE TIED CARD OF 'conduitlaw03.UriCodes'. -/
def uriCodesCard : Claim7 := { stood := { row := uriCodesRow, standIns := [], harness := (true, "4a8853161f1c7f5757e86fa79e847b2b8890afc242a0b85ad81e7c1be0c33c54"), looks := false }, kinds := [], alts := [], laidByText := true, laidKinds := [.data, .pinned], laidTests := true, laidLooks := .later }
def UriCodesCardSaid : Prop := Claim7.holds Tryd.pinned (.plain (OpenSpec.ofChange uriCodesSpec)) uriCodesCard

/-- THE SECOND FORM's CARD OF 'conduitlaw03.UriCodes'. -/
def uriCodesUptoCard : Claim7 := { stood := { row := uriCodesUptoRow, standIns := [], harness := (true, "4a8853161f1c7f5757e86fa79e847b2b8890afc242a0b85ad81e7c1be0c33c54"), looks := false }, kinds := [], alts := [], laidByText := true, laidKinds := [.data, .pinned], laidTests := true, laidLooks := .later }
def UriCodesUptoCardSaid : Prop := Claim7.holds Tryd.pinned (.plain (OpenSpec.upto uriCodesSpec)) uriCodesUptoCard
end Rows
end Go.Proofs.YtjnkpfjkmgcmlabDoor
