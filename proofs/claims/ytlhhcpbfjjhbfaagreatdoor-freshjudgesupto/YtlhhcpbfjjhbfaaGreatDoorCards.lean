/-
  DERIVED. GIVEN WITH THE SEED: THE CARDS: each row of YtlhhcpbfjjhbfaaGreatDoorRows.lean that lists a variable, with what it lists TIED to the program's text (the seventh form; the later family's looks); each row that meets fmt, with fmt's text TOLD by the authors' own Lean function (tested against real Go, not proved from fmt's source: count such statements apart). THE CARD IS WHAT COUNTS. Prove the row's statement (the work); the ties are given (YtlhhcpbfjjhbfaaGreatDoorTie.lean); close each card by the builder's one call (the guide's Derived/Test/ToyasCard.lean, 'card_holds'). Laid BY PROGRAM, IN A SANDBOX (cutbox-door.mjs). By AI agents, Wed Nov 11 2026. No macro, syntax, notation, axiom, sorry.
-/
import Derived.Test.YtlhhcpbfjjhbfaaGreatDoorRows
import GoSem.ClaimSeven
namespace Go.Proofs.YtlhhcpbfjjhbfaaGreatDoor
namespace Rows

/-- THE TIED CARD OF 'conduitlaw16.FreshTimes'. -/
def freshTimesCard : Claim7 := { stood := { row := freshTimesRow, standIns := [], harness := (true, "1a3ebbc7374c09928906434a43bb4753dda398db81fc9283bb40d2d5008fc85c"), looks := false }, kinds := [], alts := [], laidByText := true, laidKinds := [.data, .data, .data, .data, .pinned], laidTests := true, laidLooks := .later }
def FreshTimesCardSaid : Prop := Claim7.holds Tryz.pinned (.plain (OpenSpec.ofChange freshTimesSpec)) freshTimesCard

/-- THE TIED CARD OF 'conduitlaw16.FreshJudges'. -/
def freshJudgesCard : Claim7 := { stood := { row := freshJudgesRow, standIns := [], harness := (true, "1a3ebbc7374c09928906434a43bb4753dda398db81fc9283bb40d2d5008fc85c"), looks := false }, kinds := [], alts := [], laidByText := true, laidKinds := [.data, .data, .data, .data, .pinned], laidTests := true, laidLooks := .later }
def FreshJudgesCardSaid : Prop := Claim7.holds Tryz.pinned (.plain (OpenSpec.ofChange freshJudgesSpec)) freshJudgesCard

/-- THE SECOND FORM's CARD OF 'conduitlaw16.FreshTimes'. -/
def freshTimesUptoCard : Claim7 := { stood := { row := freshTimesUptoRow, standIns := [], harness := (true, "1a3ebbc7374c09928906434a43bb4753dda398db81fc9283bb40d2d5008fc85c"), looks := false }, kinds := [], alts := [], laidByText := true, laidKinds := [.data, .data, .data, .data, .pinned], laidTests := true, laidLooks := .later }
def FreshTimesUptoCardSaid : Prop := Claim7.holds Tryz.pinned (.plain (OpenSpec.upto freshTimesSpec)) freshTimesUptoCard

/-- THE SECOND FORM's CARD OF 'conduitlaw16.FreshJudges'. -/
def freshJudgesUptoCard : Claim7 := { stood := { row := freshJudgesUptoRow, standIns := [], harness := (true, "1a3ebbc7374c09928906434a43bb4753dda398db81fc9283bb40d2d5008fc85c"), looks := false }, kinds := [], alts := [], laidByText := true, laidKinds := [.data, .data, .data, .data, .pinned], laidTests := true, laidLooks := .later }
def FreshJudgesUptoCardSaid : Prop := Claim7.holds Tryz.pinned (.plain (OpenSpec.upto freshJudgesSpec)) freshJudgesUptoCard
end Rows
end Go.Proofs.YtlhhcpbfjjhbfaaGreatDoor
