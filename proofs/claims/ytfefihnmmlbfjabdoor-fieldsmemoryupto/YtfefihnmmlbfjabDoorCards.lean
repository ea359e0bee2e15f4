/-
  DERIVED. GIVEN WITH THE SEED: THE CARDS: each row of YtfefihnmmlbfjabDoorRows.lean that lists a variable, with what it lists TIED to the program's text (the seventh form; the later family's looks); each row that meets fmt, with fmt's text TOLD by the authors' own Lean function (tested against real Go, not proved from fmt's source: count such statements apart). THE CARD IS WHAT COUNTS. Prove the row's statement (the work); the ties are given (YtfefihnmmlbfjabDoorTie.lean); close each card by the builder's one call (the guide's Derived/Test/ToyasCard.lean, 'card_holds'). Laid BY PROGRAM, IN A SANDBOX (cutbox-door.mjs). By AI agents, Wed Nov 11 2026. No macro, syntax, notation, axiom, sorry.
-/
import Derived.Test.YtfefihnmmlbfjabDoorRows
import GoSem.ClaimSeven
namespace Go.Proofs.YtfefihnmmlbfjabDoor
namespace Rows

/-- THE TIED CARD OF 'conduitlaw04.FieldsJoins'. -/
def fieldsJoinsCard : Claim7 := { stood := { row := fieldsJoinsRow, standIns := [], harness := (true, "863f0eaf2dbbbf1b2c2c4426c50cb61969bd4ae68f7fdba5e4a0134472b29a9f"), looks := false }, kinds := [], alts := [], laidByText := true, laidKinds := [.data, .pinned], laidTests := true, laidLooks := .later }
def FieldsJoinsCardSaid : Prop := Claim7.holds Tryd.pinned (.plain (OpenSpec.ofChange fieldsJoinsSpec)) fieldsJoinsCard

/-- THE TIED CARD OF 'conduitlaw04.FieldsMemory'. -/
def fieldsMemoryCard : Claim7 := { stood := { row := fieldsMemoryRow, standIns := [], harness := (true, "863f0eaf2dbbbf1b2c2c4426c50cb61969bd4ae68f7fdba5e4a0134472b29a9f"), looks := false }, kinds := [], alts := [], laidByText := true, laidKinds := [.data, .pinned], laidTests := true, laidLooks := .later }
def FieldsMemoryCardSaid : Prop := Claim7.holds Tryd.pinned (.plain (OpenSpec.ofChange fieldsMemorySpec)) fieldsMemoryCard

/-- THE SECOND FORM's CARD OF 'conduitlaw04.FieldsJoins'. -/
def fieldsJoinsUptoCard : Claim7 := { stood := { row := fieldsJoinsUptoRow, standIns := [], harness := (true, "863f0eaf2dbbbf1b2c2c4426c50cb61969bd4ae68f7fdba5e4a0134472b29a9f"), looks := false }, kinds := [], alts := [], laidByText := true, laidKinds := [.data, .pinned], laidTests := true, laidLooks := .later }
def FieldsJoinsUptoCardSaid : Prop := Claim7.holds Tryd.pinned (.plain (OpenSpec.upto fieldsJoinsSpec)) fieldsJoinsUptoCard

/-- THE SECOND FORM's CARD OF 'conduitlaw04.FieldsMemory'. -/
def fieldsMemoryUptoCard : Claim7 := { stood := { row := fieldsMemoryUptoRow, standIns := [], harness := (true, "863f0eaf2dbbbf1b2c2c4426c50cb61969bd4ae68f7fdba5e4a0134472b29a9f"), looks := false }, kinds := [], alts := [], laidByText := true, laidKinds := [.data, .pinned], laidTests := true, laidLooks := .later }
def FieldsMemoryUptoCardSaid : Prop := Claim7.holds Tryd.pinned (.plain (OpenSpec.upto fieldsMemorySpec)) fieldsMemoryUptoCard
end Rows
end Go.Proofs.YtfefihnmmlbfjabDoor
