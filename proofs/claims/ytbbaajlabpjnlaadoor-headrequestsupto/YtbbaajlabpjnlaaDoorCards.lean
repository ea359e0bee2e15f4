/-
  DERIVED. GIVEN WITH THE SEED: THE CARDS: each row of YtbbaajlabpjnlaaDoorRows.lean that lists a variable, with what it lists TIED to the program's text (the seventh form; the later family's looks); each row that meets fmt, with fmt's text TOLD by the authors' own Lean function (tested against real Go, not proved from fmt's source: count such statements apart). THE CARD IS WHAT COUNTS. Prove the row's statement (the work); the ties are given (YtbbaajlabpjnlaaDoorTie.lean); close each card by the builder's one call (the guide's Derived/Test/ToyasCard.lean, 'card_holds'). Laid BY PROGRAM, IN A SANDBOX (cutbox-door.mjs). By AI agents, Wed Nov 11 2026. No macro, syntax, notation, axiom, sorry.
-/
import Derived.Test.YtbbaajlabpjnlaaDoorRows
import GoSem.ClaimSeven
namespace Go.Proofs.YtbbaajlabpjnlaaDoor
namespace Rows

/-- THE TIED CARD OF 'conduitlaw05.HeadRequests'. -/
def headRequestsCard : Claim7 := { stood := { row := headRequestsRow, standIns := [], harness := (true, "325f40fd781facf2cf2cdce9ae7d1a6eb0d07bf7393ca158b4c4ddc2ef99ae99"), looks := false }, kinds := [], alts := [], laidByText := true, laidKinds := [.data, .pinned], laidTests := true, laidLooks := .later }
def HeadRequestsCardSaid : Prop := Claim7.holds Tryd.pinned (.plain (OpenSpec.ofChange headRequestsSpec)) headRequestsCard

/-- THE TIED CARD OF 'conduitlaw05.HeadHosts'. -/
def headHostsCard : Claim7 := { stood := { row := headHostsRow, standIns := [], harness := (true, "325f40fd781facf2cf2cdce9ae7d1a6eb0d07bf7393ca158b4c4ddc2ef99ae99"), looks := false }, kinds := [], alts := [], laidByText := true, laidKinds := [.data, .pinned], laidTests := true, laidLooks := .later }
def HeadHostsCardSaid : Prop := Claim7.holds Tryd.pinned (.plain (OpenSpec.ofChange headHostsSpec)) headHostsCard

/-- THE SECOND FORM's CARD OF 'conduitlaw05.HeadRequests'. -/
def headRequestsUptoCard : Claim7 := { stood := { row := headRequestsUptoRow, standIns := [], harness := (true, "325f40fd781facf2cf2cdce9ae7d1a6eb0d07bf7393ca158b4c4ddc2ef99ae99"), looks := false }, kinds := [], alts := [], laidByText := true, laidKinds := [.data, .pinned], laidTests := true, laidLooks := .later }
def HeadRequestsUptoCardSaid : Prop := Claim7.holds Tryd.pinned (.plain (OpenSpec.upto headRequestsSpec)) headRequestsUptoCard

/-- THE SECOND FORM's CARD OF 'conduitlaw05.HeadHosts'. -/
def headHostsUptoCard : Claim7 := { stood := { row := headHostsUptoRow, standIns := [], harness := (true, "325f40fd781facf2cf2cdce9ae7d1a6eb0d07bf7393ca158b4c4ddc2ef99ae99"), looks := false }, kinds := [], alts := [], laidByText := true, laidKinds := [.data, .pinned], laidTests := true, laidLooks := .later }
def HeadHostsUptoCardSaid : Prop := Claim7.holds Tryd.pinned (.plain (OpenSpec.upto headHostsSpec)) headHostsUptoCard
end Rows
end Go.Proofs.YtbbaajlabpjnlaaDoor
