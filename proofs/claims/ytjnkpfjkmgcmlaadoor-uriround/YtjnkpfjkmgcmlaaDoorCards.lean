/-
  DERIVED. GIVEN WITH THE SEED: THE CARDS: each row of YtjnkpfjkmgcmlaaDoorRows.lean that lists a variable, with what it lists TIED to the program's text (the seventh form; the later family's looks); each row that meets fmt, with fmt's text TOLD by the authors' own Lean function (tested against real Go, not proved from fmt's source: count such statements apart). THE CARD IS WHAT COUNTS. Prove the row's statement (the work); the ties are given (YtjnkpfjkmgcmlaaDoorTie.lean); close each card by the builder's one call (the guide's Derived/Test/ToyasCard.lean, 'card_holds'). Laid BY PROGRAM, IN A SANDBOX (cutbox-door.mjs). By AI agents, Wed Nov 11 2026. No macro, syntax, notation, axiom, sorry.
-/
import Derived.Test.YtjnkpfjkmgcmlaaDoorRows
import GoSem.ClaimSeven
namespace Go.Proofs.YtjnkpfjkmgcmlaaDoor
namespace Rows

/-- THE TIED CARD OF 'conduitlaw03.UriParses'. -/
def uriParsesCard : Claim7 := { stood := { row := uriParsesRow, standIns := [], harness := (true, "27eb3324e40e8fb1fac82c9995998a38a9b0e7ff302ebfbbbacd2fe3493c43bb"), looks := false }, kinds := [], alts := [], laidByText := true, laidKinds := [.data, .pinned], laidTests := true, laidLooks := .later }
def UriParsesCardSaid : Prop := Claim7.holds Tryd.pinned (.plain (OpenSpec.ofChange uriParsesSpec)) uriParsesCard

/-- THE TIED CARD OF 'conduitlaw03.UriShows'. -/
def uriShowsCard : Claim7 := { stood := { row := uriShowsRow, standIns := [], harness := (true, "27eb3324e40e8fb1fac82c9995998a38a9b0e7ff302ebfbbbacd2fe3493c43bb"), looks := false }, kinds := [], alts := [], laidByText := true, laidKinds := [.data, .data, .data], laidTests := true, laidLooks := .later }
def UriShowsCardSaid : Prop := Claim7.holds Tryd.pinned (.plain (OpenSpec.ofChange uriShowsSpec)) uriShowsCard

/-- THE TIED CARD OF 'conduitlaw03.UriRound'. -/
def uriRoundCard : Claim7 := { stood := { row := uriRoundRow, standIns := [], harness := (true, "27eb3324e40e8fb1fac82c9995998a38a9b0e7ff302ebfbbbacd2fe3493c43bb"), looks := false }, kinds := [], alts := [], laidByText := true, laidKinds := [.data, .data, .data, .data, .pinned], laidTests := true, laidLooks := .later }
def UriRoundCardSaid : Prop := Claim7.holds Tryd.pinned (.plain (OpenSpec.ofChange uriRoundSpec)) uriRoundCard

/-- THE TIED CARD OF 'conduitlaw03.UriPlain'. -/
def uriPlainCard : Claim7 := { stood := { row := uriPlainRow, standIns := [], harness := (true, "27eb3324e40e8fb1fac82c9995998a38a9b0e7ff302ebfbbbacd2fe3493c43bb"), looks := false }, kinds := [], alts := [], laidByText := true, laidKinds := [.data, .pinned], laidTests := true, laidLooks := .later }
def UriPlainCardSaid : Prop := Claim7.holds Tryd.pinned (.plain (OpenSpec.ofChange uriPlainSpec)) uriPlainCard

/-- THE TIED CARD OF 'conduitlaw03.UriSame'. -/
def uriSameCard : Claim7 := { stood := { row := uriSameRow, standIns := [], harness := (true, "27eb3324e40e8fb1fac82c9995998a38a9b0e7ff302ebfbbbacd2fe3493c43bb"), looks := false }, kinds := [], alts := [], laidByText := true, laidKinds := [.data, .pinned], laidTests := true, laidLooks := .later }
def UriSameCardSaid : Prop := Claim7.holds Tryd.pinned (.plain (OpenSpec.ofChange uriSameSpec)) uriSameCard

/-- THE SECOND FORM's CARD OF 'conduitlaw03.UriParses'. -/
def uriParsesUptoCard : Claim7 := { stood := { row := uriParsesUptoRow, standIns := [], harness := (true, "27eb3324e40e8fb1fac82c9995998a38a9b0e7ff302ebfbbbacd2fe3493c43bb"), looks := false }, kinds := [], alts := [], laidByText := true, laidKinds := [.data, .pinned], laidTests := true, laidLooks := .later }
def UriParsesUptoCardSaid : Prop := Claim7.holds Tryd.pinned (.plain (OpenSpec.upto uriParsesSpec)) uriParsesUptoCard

/-- THE SECOND FORM's CARD OF 'conduitlaw03.UriShows'. -/
def uriShowsUptoCard : Claim7 := { stood := { row := uriShowsUptoRow, standIns := [], harness := (true, "27eb3324e40e8fb1fac82c9995998a38a9b0e7ff302ebfbbbacd2fe3493c43bb"), looks := false }, kinds := [], alts := [], laidByText := true, laidKinds := [.data, .data, .data], laidTests := true, laidLooks := .later }
def UriShowsUptoCardSaid : Prop := Claim7.holds Tryd.pinned (.plain (OpenSpec.upto uriShowsSpec)) uriShowsUptoCard

/-- THE SECOND FORM's CARD OF 'conduitlaw03.UriRound'. -/
def uriRoundUptoCard : Claim7 := { stood := { row := uriRoundUptoRow, standIns := [], harness := (true, "27eb3324e40e8fb1fac82c9995998a38a9b0e7ff302ebfbbbacd2fe3493c43bb"), looks := false }, kinds := [], alts := [], laidByText := true, laidKinds := [.data, .data, .data, .data, .pinned], laidTests := true, laidLooks := .later }
def UriRoundUptoCardSaid : Prop := Claim7.holds Tryd.pinned (.plain (OpenSpec.upto uriRoundSpec)) uriRoundUptoCard

/-- THE SECOND FORM's CARD OF 'conduitlaw03.UriPlain'. -/
def uriPlainUptoCard : Claim7 := { stood := { row := uriPlainUptoRow, standIns := [], harness := (true, "27eb3324e40e8fb1fac82c9995998a38a9b0e7ff302ebfbbbacd2fe3493c43bb"), looks := false }, kinds := [], alts := [], laidByText := true, laidKinds := [.data, .pinned], laidTests := true, laidLooks := .later }
def UriPlainUptoCardSaid : Prop := Claim7.holds Tryd.pinned (.plain (OpenSpec.upto uriPlainSpec)) uriPlainUptoCard

/-- THE SECOND FORM's CARD OF 'conduitlaw03.UriSame'. -/
def uriSameUptoCard : Claim7 := { stood := { row := uriSameUptoRow, standIns := [], harness := (true, "27eb3324e40e8fb1fac82c9995998a38a9b0e7ff302ebfbbbacd2fe3493c43bb"), looks := false }, kinds := [], alts := [], laidByText := true, laidKinds := [.data, .pinned], laidTests := true, laidLooks := .later }
def UriSameUptoCardSaid : Prop := Claim7.holds Tryd.pinned (.plain (OpenSpec.upto uriSameSpec)) uriSameUptoCard
end Rows
end Go.Proofs.YtjnkpfjkmgcmlaaDoor
