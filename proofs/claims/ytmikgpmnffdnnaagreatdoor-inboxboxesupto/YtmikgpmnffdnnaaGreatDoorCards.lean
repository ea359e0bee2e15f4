/-
  DERIVED. GIVEN WITH THE SEED: THE CARDS: each row of YtmikgpmnffdnnaaGreatDoorRows.lean that lists a variable, with what it lists TIED to the program's text (the seventh form; the later family's looks); each row that meets fmt, with fmt's text TOLD by the authors' own Lean function (tested against real Go, not proved from fmt's source: count such statements apart). THE CARD IS WHAT COUNTS. Prove the row's statement (the work); the ties are given (YtmikgpmnffdnnaaGreatDoorTie.lean); close each card by the builder's one call (the guide's Derived/Test/ToyasCard.lean, 'card_holds'). Laid BY PROGRAM, IN A SANDBOX (cutbox-door.mjs). By AI agents, Wed Nov 11 2026. No macro, syntax, notation, axiom, sorry.
-/
import Derived.Test.YtmikgpmnffdnnaaGreatDoorRows
import GoSem.ClaimSeven
namespace Go.Proofs.YtmikgpmnffdnnaaGreatDoor
namespace Rows

/-- THE TIED CARD OF 'conduitlaw08.InboxRequests'. -/
def inboxRequestsCard : Claim7 := { stood := { row := inboxRequestsRow, standIns := [], harness := (true, "b35dc5c6c7c29c328c955c0fb89b2ee2a384ab7e80670bc933ef6c90e043605c"), looks := true }, kinds := [], alts := [], laidByText := true, laidKinds := [.data, .data, .data, .data, .sentinel, .sentinel, .pinned], laidTests := true, laidLooks := .later }
def InboxRequestsCardSaid : Prop := Claim7.holds Tryz.pinned (.plain (OpenSpec.ofChange inboxRequestsSpec)) inboxRequestsCard

/-- THE TIED CARD OF 'conduitlaw08.InboxResponses'. -/
def inboxResponsesCard : Claim7 := { stood := { row := inboxResponsesRow, standIns := [], harness := (true, "b35dc5c6c7c29c328c955c0fb89b2ee2a384ab7e80670bc933ef6c90e043605c"), looks := true }, kinds := [], alts := [], laidByText := true, laidKinds := [.data, .data, .data, .data, .sentinel, .sentinel, .pinned], laidTests := true, laidLooks := .later }
def InboxResponsesCardSaid : Prop := Claim7.holds Tryz.pinned (.plain (OpenSpec.ofChange inboxResponsesSpec)) inboxResponsesCard

/-- THE TIED CARD OF 'conduitlaw08.InboxExpects'. -/
def inboxExpectsCard : Claim7 := { stood := { row := inboxExpectsRow, standIns := [], harness := (true, "b35dc5c6c7c29c328c955c0fb89b2ee2a384ab7e80670bc933ef6c90e043605c"), looks := true }, kinds := [], alts := [], laidByText := true, laidKinds := [.data, .data, .data, .data, .sentinel, .sentinel, .pinned], laidTests := true, laidLooks := .later }
def InboxExpectsCardSaid : Prop := Claim7.holds Tryz.pinned (.plain (OpenSpec.ofChange inboxExpectsSpec)) inboxExpectsCard

/-- THE TIED CARD OF 'conduitlaw08.InboxPieces'. -/
def inboxPiecesCard : Claim7 := { stood := { row := inboxPiecesRow, standIns := [], harness := (true, "b35dc5c6c7c29c328c955c0fb89b2ee2a384ab7e80670bc933ef6c90e043605c"), looks := true }, kinds := [], alts := [], laidByText := true, laidKinds := [.data, .data, .data, .data, .sentinel, .sentinel, .pinned], laidTests := true, laidLooks := .later }
def InboxPiecesCardSaid : Prop := Claim7.holds Tryz.pinned (.plain (OpenSpec.ofChange inboxPiecesSpec)) inboxPiecesCard

/-- THE TIED CARD OF 'conduitlaw08.InboxBoxes'. -/
def inboxBoxesCard : Claim7 := { stood := { row := inboxBoxesRow, standIns := [], harness := (true, "b35dc5c6c7c29c328c955c0fb89b2ee2a384ab7e80670bc933ef6c90e043605c"), looks := true }, kinds := [], alts := [], laidByText := true, laidKinds := [.data, .data, .data, .data, .sentinel, .sentinel, .pinned], laidTests := true, laidLooks := .later }
def InboxBoxesCardSaid : Prop := Claim7.holds Tryz.pinned (.plain (OpenSpec.ofChange inboxBoxesSpec)) inboxBoxesCard

/-- THE TIED CARD OF 'conduitlaw08.InboxFirst'. -/
def inboxFirstCard : Claim7 := { stood := { row := inboxFirstRow, standIns := [], harness := (true, "b35dc5c6c7c29c328c955c0fb89b2ee2a384ab7e80670bc933ef6c90e043605c"), looks := true }, kinds := [], alts := [], laidByText := true, laidKinds := [.data, .data, .data, .data, .sentinel, .sentinel, .pinned], laidTests := true, laidLooks := .later }
def InboxFirstCardSaid : Prop := Claim7.holds Tryz.pinned (.plain (OpenSpec.ofChange inboxFirstSpec)) inboxFirstCard

/-- THE SECOND FORM's CARD OF 'conduitlaw08.InboxRequests'. -/
def inboxRequestsUptoCard : Claim7 := { stood := { row := inboxRequestsUptoRow, standIns := [], harness := (true, "b35dc5c6c7c29c328c955c0fb89b2ee2a384ab7e80670bc933ef6c90e043605c"), looks := true }, kinds := [], alts := [], laidByText := true, laidKinds := [.data, .data, .data, .data, .sentinel, .sentinel, .pinned], laidTests := true, laidLooks := .later }
def InboxRequestsUptoCardSaid : Prop := Claim7.holds Tryz.pinned (.plain (OpenSpec.upto inboxRequestsSpec)) inboxRequestsUptoCard

/-- THE SECOND FORM's CARD OF 'conduitlaw08.InboxResponses'. -/
def inboxResponsesUptoCard : Claim7 := { stood := { row := inboxResponsesUptoRow, standIns := [], harness := (true, "b35dc5c6c7c29c328c955c0fb89b2ee2a384ab7e80670bc933ef6c90e043605c"), looks := true }, kinds := [], alts := [], laidByText := true, laidKinds := [.data, .data, .data, .data, .sentinel, .sentinel, .pinned], laidTests := true, laidLooks := .later }
def InboxResponsesUptoCardSaid : Prop := Claim7.holds Tryz.pinned (.plain (OpenSpec.upto inboxResponsesSpec)) inboxResponsesUptoCard

/-- THE SECOND FORM's CARD OF 'conduitlaw08.InboxExpects'. -/
def inboxExpectsUptoCard : Claim7 := { stood := { row := inboxExpectsUptoRow, standIns := [], harness := (true, "b35dc5c6c7c29c328c955c0fb89b2ee2a384ab7e80670bc933ef6c90e043605c"), looks := true }, kinds := [], alts := [], laidByText := true, laidKinds := [.data, .data, .data, .data, .sentinel, .sentinel, .pinned], laidTests := true, laidLooks := .later }
def InboxExpectsUptoCardSaid : Prop := Claim7.holds Tryz.pinned (.plain (OpenSpec.upto inboxExpectsSpec)) inboxExpectsUptoCard

/-- THE SECOND FORM's CARD OF 'conduitlaw08.InboxPieces'. -/
def inboxPiecesUptoCard : Claim7 := { stood := { row := inboxPiecesUptoRow, standIns := [], harness := (true, "b35dc5c6c7c29c328c955c0fb89b2ee2a384ab7e80670bc933ef6c90e043605c"), looks := true }, kinds := [], alts := [], laidByText := true, laidKinds := [.data, .data, .data, .data, .sentinel, .sentinel, .pinned], laidTests := true, laidLooks := .later }
def InboxPiecesUptoCardSaid : Prop := Claim7.holds Tryz.pinned (.plain (OpenSpec.upto inboxPiecesSpec)) inboxPiecesUptoCard

/-- THE SECOND FORM's CARD OF 'conduitlaw08.InboxBoxes'. -/
def inboxBoxesUptoCard : Claim7 := { stood := { row := inboxBoxesUptoRow, standIns := [], harness := (true, "b35dc5c6c7c29c328c955c0fb89b2ee2a384ab7e80670bc933ef6c90e043605c"), looks := true }, kinds := [], alts := [], laidByText := true, laidKinds := [.data, .data, .data, .data, .sentinel, .sentinel, .pinned], laidTests := true, laidLooks := .later }
def InboxBoxesUptoCardSaid : Prop := Claim7.holds Tryz.pinned (.plain (OpenSpec.upto inboxBoxesSpec)) inboxBoxesUptoCard

/-- THE SECOND FORM's CARD OF 'conduitlaw08.InboxFirst'. -/
def inboxFirstUptoCard : Claim7 := { stood := { row := inboxFirstUptoRow, standIns := [], harness := (true, "b35dc5c6c7c29c328c955c0fb89b2ee2a384ab7e80670bc933ef6c90e043605c"), looks := true }, kinds := [], alts := [], laidByText := true, laidKinds := [.data, .data, .data, .data, .sentinel, .sentinel, .pinned], laidTests := true, laidLooks := .later }
def InboxFirstUptoCardSaid : Prop := Claim7.holds Tryz.pinned (.plain (OpenSpec.upto inboxFirstSpec)) inboxFirstUptoCard
end Rows
end Go.Proofs.YtmikgpmnffdnnaaGreatDoor
