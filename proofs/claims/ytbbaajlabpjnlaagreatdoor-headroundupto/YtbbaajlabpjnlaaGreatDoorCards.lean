/-
  DERIVED. GIVEN WITH THE SEED: THE CARDS: each row of YtbbaajlabpjnlaaGreatDoorRows.lean that lists a variable, with what it lists TIED to the program's text (the seventh form; the later family's looks); each row that meets fmt, with fmt's text TOLD by the authors' own Lean function (tested against real Go, not proved from fmt's source: count such statements apart). THE CARD IS WHAT COUNTS. Prove the row's statement (the work); the ties are given (YtbbaajlabpjnlaaGreatDoorTie.lean); close each card by the builder's one call (the guide's Derived/Test/ToyasCard.lean, 'card_holds'). Laid BY PROGRAM, IN A SANDBOX (cutbox-door.mjs). By AI agents, Wed Nov 11 2026. No macro, syntax, notation, axiom, sorry.
-/
import Derived.Test.YtbbaajlabpjnlaaGreatDoorRows
import GoSem.ClaimSeven
namespace Go.Proofs.YtbbaajlabpjnlaaGreatDoor
namespace Rows

/-- THE TIED CARD OF 'conduitlaw05.HeadResponses'. -/
def headResponsesCard : Claim7 := { stood := { row := headResponsesRow, standIns := [], harness := (true, "aff64e1941203920798ea0c28e41cfcb4f674f51bbd74585eae311aa313fdc1a"), looks := true }, kinds := [], alts := [], laidByText := true, laidKinds := [.data, .data, .data, .data, .sentinel, .sentinel, .pinned], laidTests := true, laidLooks := .later }
def HeadResponsesCardSaid : Prop := Claim7.holds Tryz.pinned (.plain (OpenSpec.ofChange headResponsesSpec)) headResponsesCard

/-- THE TIED CARD OF 'conduitlaw05.HeadPrints'. -/
def headPrintsCard : Claim7 := { stood := { row := headPrintsRow, standIns := [], harness := (true, "aff64e1941203920798ea0c28e41cfcb4f674f51bbd74585eae311aa313fdc1a"), looks := true }, kinds := [], alts := [], laidByText := true, laidKinds := [.data, .data, .data, .data, .pinned], laidTests := true, laidLooks := .later }
def HeadPrintsCardSaid : Prop := Claim7.holds Tryz.pinned (.plain (OpenSpec.ofChange headPrintsSpec)) headPrintsCard

/-- THE TIED CARD OF 'conduitlaw05.HeadRound'. -/
def headRoundCard : Claim7 := { stood := { row := headRoundRow, standIns := [], harness := (true, "aff64e1941203920798ea0c28e41cfcb4f674f51bbd74585eae311aa313fdc1a"), looks := true }, kinds := [], alts := [], laidByText := true, laidKinds := [.data, .data, .data, .data, .sentinel, .sentinel, .pinned], laidTests := true, laidLooks := .later }
def HeadRoundCardSaid : Prop := Claim7.holds Tryz.pinned (.plain (OpenSpec.ofChange headRoundSpec)) headRoundCard

/-- THE TIED CARD OF 'conduitlaw05.HeadGrows'. -/
def headGrowsCard : Claim7 := { stood := { row := headGrowsRow, standIns := [], harness := (true, "aff64e1941203920798ea0c28e41cfcb4f674f51bbd74585eae311aa313fdc1a"), looks := true }, kinds := [], alts := [], laidByText := true, laidKinds := [.data, .data, .data, .data, .sentinel, .sentinel, .pinned], laidTests := true, laidLooks := .later }
def HeadGrowsCardSaid : Prop := Claim7.holds Tryz.pinned (.plain (OpenSpec.ofChange headGrowsSpec)) headGrowsCard

/-- THE SECOND FORM's CARD OF 'conduitlaw05.HeadResponses'. -/
def headResponsesUptoCard : Claim7 := { stood := { row := headResponsesUptoRow, standIns := [], harness := (true, "aff64e1941203920798ea0c28e41cfcb4f674f51bbd74585eae311aa313fdc1a"), looks := true }, kinds := [], alts := [], laidByText := true, laidKinds := [.data, .data, .data, .data, .sentinel, .sentinel, .pinned], laidTests := true, laidLooks := .later }
def HeadResponsesUptoCardSaid : Prop := Claim7.holds Tryz.pinned (.plain (OpenSpec.upto headResponsesSpec)) headResponsesUptoCard

/-- THE SECOND FORM's CARD OF 'conduitlaw05.HeadPrints'. -/
def headPrintsUptoCard : Claim7 := { stood := { row := headPrintsUptoRow, standIns := [], harness := (true, "aff64e1941203920798ea0c28e41cfcb4f674f51bbd74585eae311aa313fdc1a"), looks := true }, kinds := [], alts := [], laidByText := true, laidKinds := [.data, .data, .data, .data, .pinned], laidTests := true, laidLooks := .later }
def HeadPrintsUptoCardSaid : Prop := Claim7.holds Tryz.pinned (.plain (OpenSpec.upto headPrintsSpec)) headPrintsUptoCard

/-- THE SECOND FORM's CARD OF 'conduitlaw05.HeadRound'. -/
def headRoundUptoCard : Claim7 := { stood := { row := headRoundUptoRow, standIns := [], harness := (true, "aff64e1941203920798ea0c28e41cfcb4f674f51bbd74585eae311aa313fdc1a"), looks := true }, kinds := [], alts := [], laidByText := true, laidKinds := [.data, .data, .data, .data, .sentinel, .sentinel, .pinned], laidTests := true, laidLooks := .later }
def HeadRoundUptoCardSaid : Prop := Claim7.holds Tryz.pinned (.plain (OpenSpec.upto headRoundSpec)) headRoundUptoCard

/-- THE SECOND FORM's CARD OF 'conduitlaw05.HeadGrows'. -/
def headGrowsUptoCard : Claim7 := { stood := { row := headGrowsUptoRow, standIns := [], harness := (true, "aff64e1941203920798ea0c28e41cfcb4f674f51bbd74585eae311aa313fdc1a"), looks := true }, kinds := [], alts := [], laidByText := true, laidKinds := [.data, .data, .data, .data, .sentinel, .sentinel, .pinned], laidTests := true, laidLooks := .later }
def HeadGrowsUptoCardSaid : Prop := Claim7.holds Tryz.pinned (.plain (OpenSpec.upto headGrowsSpec)) headGrowsUptoCard
end Rows
end Go.Proofs.YtbbaajlabpjnlaaGreatDoor
