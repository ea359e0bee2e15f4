/-
  DERIVED. GIVEN WITH THE SEED: THE CARDS: each row of YtddbemleialpbaaDoorRows.lean that lists a variable, with what it lists TIED to the program's text (the seventh form; the later family's looks); each row that meets fmt, with fmt's text TOLD by the authors' own Lean function (tested against real Go, not proved from fmt's source: count such statements apart). THE CARD IS WHAT COUNTS. Prove the row's statement (the work); the ties are given (YtddbemleialpbaaDoorTie.lean); close each card by the builder's one call (the guide's Derived/Test/ToyasCard.lean, 'card_holds'). Laid BY PROGRAM, IN A SANDBOX (cutbox-door.mjs). By AI agents, Wed Nov 11 2026. No macro, syntax, notation, axiom, sorry.
-/
import Derived.Test.YtddbemleialpbaaDoorRows
import GoSem.ClaimSeven
namespace Go.Proofs.YtddbemleialpbaaDoor
namespace Rows

/-- THE TIED CARD OF 'conduitlaw03.UriShows'. -/
def uriShowsCard : Claim7 := { stood := { row := uriShowsRow, standIns := [], harness := (true, "90b400b707b5e6bfd40ec4eeb7ba391b8bbd69c49ca43a11352ff1482725f963"), looks := false }, kinds := [], alts := [], laidByText := true, laidKinds := [.data, .data, .data], laidTests := true, laidLooks := .later }
def UriShowsCardSaid : Prop := Claim7.holds Tryd.pinned (.plain (OpenSpec.ofChange uriShowsSpec)) uriShowsCard

/-- THE SECOND FORM's CARD OF 'conduitlaw03.UriShows'. -/
def uriShowsUptoCard : Claim7 := { stood := { row := uriShowsUptoRow, standIns := [], harness := (true, "90b400b707b5e6bfd40ec4eeb7ba391b8bbd69c49ca43a11352ff1482725f963"), looks := false }, kinds := [], alts := [], laidByText := true, laidKinds := [.data, .data, .data], laidTests := true, laidLooks := .later }
def UriShowsUptoCardSaid : Prop := Claim7.holds Tryd.pinned (.plain (OpenSpec.upto uriShowsSpec)) uriShowsUptoCard
end Rows
end Go.Proofs.YtddbemleialpbaaDoor
