/-
  DERIVED. GIVEN WITH THE SEED: THE CARDS: each row of YtaijnphodjdedaaDoorRows.lean that lists a variable, with what it lists TIED to the program's text (the seventh form; the later family's looks); each row that meets fmt, with fmt's text TOLD by the authors' own Lean function (tested against real Go, not proved from fmt's source: count such statements apart). THE CARD IS WHAT COUNTS. Prove the row's statement (the work); the ties are given (YtaijnphodjdedaaDoorTie.lean); close each card by the builder's one call (the guide's Derived/Test/ToyasCard.lean, 'card_holds'). Laid BY PROGRAM, IN A SANDBOX (cutbox-door.mjs). By AI agents, Wed Nov 11 2026. No macro, syntax, notation, axiom, sorry.
-/
import Derived.Test.YtaijnphodjdedaaDoorRows
import GoSem.ClaimSeven
namespace Go.Proofs.YtaijnphodjdedaaDoor
namespace Rows

/-- THE TIED CARD OF 'conduitlaw03.UriParses'. -/
def uriParsesCard : Claim7 := { stood := { row := uriParsesRow, standIns := [], harness := (true, "5b0383b17a5111b5018d17351d156561823f33a8d9fae5bb4eb26551ca3987da"), looks := false }, kinds := [], alts := [], laidByText := true, laidKinds := [.data, .pinned], laidTests := true, laidLooks := .later }
def UriParsesCardSaid : Prop := Claim7.holds Tryd.pinned (.plain (OpenSpec.ofChange uriParsesSpec)) uriParsesCard

/-- THE TIED CARD OF 'conduitlaw03.UriShows'. -/
def uriShowsCard : Claim7 := { stood := { row := uriShowsRow, standIns := [], harness := (true, "5b0383b17a5111b5018d17351d156561823f33a8d9fae5bb4eb26551ca3987da"), looks := false }, kinds := [], alts := [], laidByText := true, laidKinds := [.data, .data, .data], laidTests := true, laidLooks := .later }
def UriShowsCardSaid : Prop := Claim7.holds Tryd.pinned (.plain (OpenSpec.ofChange uriShowsSpec)) uriShowsCard

/-- THE SECOND FORM's CARD OF 'conduitlaw03.UriParses'. -/
def uriParsesUptoCard : Claim7 := { stood := { row := uriParsesUptoRow, standIns := [], harness := (true, "5b0383b17a5111b5018d17351d156561823f33a8d9fae5bb4eb26551ca3987da"), looks := false }, kinds := [], alts := [], laidByText := true, laidKinds := [.data, .pinned], laidTests := true, laidLooks := .later }
def UriParsesUptoCardSaid : Prop := Claim7.holds Tryd.pinned (.plain (OpenSpec.upto uriParsesSpec)) uriParsesUptoCard

/-- THE SECOND FORM's CARD OF 'conduitlaw03.UriShows'. -/
def uriShowsUptoCard : Claim7 := { stood := { row := uriShowsUptoRow, standIns := [], harness := (true, "5b0383b17a5111b5018d17351d156561823f33a8d9fae5bb4eb26551ca3987da"), looks := false }, kinds := [], alts := [], laidByText := true, laidKinds := [.data, .data, .data], laidTests := true, laidLooks := .later }
def UriShowsUptoCardSaid : Prop := Claim7.holds Tryd.pinned (.plain (OpenSpec.upto uriShowsSpec)) uriShowsUptoCard
end Rows
end Go.Proofs.YtaijnphodjdedaaDoor
