/-
  DERIVED. GIVEN WITH THE SEED: THE CARDS: each row of YtlhhcpbfjjhbfabDoorRows.lean that lists a variable, with what it lists TIED to the program's text (the seventh form; the later family's looks); each row that meets fmt, with fmt's text TOLD by the authors' own Lean function (tested against real Go, not proved from fmt's source: count such statements apart). THE CARD IS WHAT COUNTS. Prove the row's statement (the work); the ties are given (YtlhhcpbfjjhbfabDoorTie.lean); close each card by the builder's one call (the guide's Derived/Test/ToyasCard.lean, 'card_holds'). Laid BY PROGRAM, IN A SANDBOX (cutbox-door.mjs). By AI agents, Wed Nov 11 2026. No macro, syntax, notation, axiom, sorry.
-/
import Derived.Test.YtlhhcpbfjjhbfabDoorRows
import GoSem.ClaimSeven
namespace Go.Proofs.YtlhhcpbfjjhbfabDoor
namespace Rows

/-- THE TIED CARD OF 'conduitlaw16.FreshRefuses'. -/
def freshRefusesCard : Claim7 := { stood := { row := freshRefusesRow, standIns := [], harness := (true, "be148539849ea12b2800d304d73fbd58671850aa1e16fef806137bec70fb5e83"), looks := false }, kinds := [], alts := [], laidByText := true, laidKinds := [.data, .pinned], laidTests := true, laidLooks := .later }
def FreshRefusesCardSaid : Prop := Claim7.holds Tryd.pinned (.plain (OpenSpec.ofChange freshRefusesSpec)) freshRefusesCard

/-- THE TIED CARD OF 'conduitlaw16.FreshExplicit'. -/
def freshExplicitCard : Claim7 := { stood := { row := freshExplicitRow, standIns := [], harness := (true, "be148539849ea12b2800d304d73fbd58671850aa1e16fef806137bec70fb5e83"), looks := false }, kinds := [], alts := [], laidByText := true, laidKinds := [.data, .data, .data, .data, .pinned], laidTests := true, laidLooks := .later }
def FreshExplicitCardSaid : Prop := Claim7.holds Tryd.pinned (.plain (OpenSpec.ofChange freshExplicitSpec)) freshExplicitCard

/-- THE SECOND FORM's CARD OF 'conduitlaw16.FreshRefuses'. -/
def freshRefusesUptoCard : Claim7 := { stood := { row := freshRefusesUptoRow, standIns := [], harness := (true, "be148539849ea12b2800d304d73fbd58671850aa1e16fef806137bec70fb5e83"), looks := false }, kinds := [], alts := [], laidByText := true, laidKinds := [.data, .pinned], laidTests := true, laidLooks := .later }
def FreshRefusesUptoCardSaid : Prop := Claim7.holds Tryd.pinned (.plain (OpenSpec.upto freshRefusesSpec)) freshRefusesUptoCard

/-- THE SECOND FORM's CARD OF 'conduitlaw16.FreshExplicit'. -/
def freshExplicitUptoCard : Claim7 := { stood := { row := freshExplicitUptoRow, standIns := [], harness := (true, "be148539849ea12b2800d304d73fbd58671850aa1e16fef806137bec70fb5e83"), looks := false }, kinds := [], alts := [], laidByText := true, laidKinds := [.data, .data, .data, .data, .pinned], laidTests := true, laidLooks := .later }
def FreshExplicitUptoCardSaid : Prop := Claim7.holds Tryd.pinned (.plain (OpenSpec.upto freshExplicitSpec)) freshExplicitUptoCard
end Rows
end Go.Proofs.YtlhhcpbfjjhbfabDoor
