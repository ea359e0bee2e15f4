/-
  DERIVED. GIVEN WITH THE SEED: THE CARDS: each row of YtfefihnmmlbfjaaDoorRows.lean that lists a variable, with what it lists TIED to the program's text (the seventh form; the later family's looks); each row that meets fmt, with fmt's text TOLD by the authors' own Lean function (tested against real Go, not proved from fmt's source: count such statements apart). THE CARD IS WHAT COUNTS. Prove the row's statement (the work); the ties are given (YtfefihnmmlbfjaaDoorTie.lean); close each card by the builder's one call (the guide's Derived/Test/ToyasCard.lean, 'card_holds'). Laid BY PROGRAM, IN A SANDBOX (cutbox-door.mjs). By AI agents, Wed Nov 11 2026. No macro, syntax, notation, axiom, sorry.
-/
import Derived.Test.YtfefihnmmlbfjaaDoorRows
import GoSem.ClaimSeven
namespace Go.Proofs.YtfefihnmmlbfjaaDoor
namespace Rows

/-- THE TIED CARD OF 'conduitlaw04.FieldsParses'. -/
def fieldsParsesCard : Claim7 := { stood := { row := fieldsParsesRow, standIns := [], harness := (true, "1baf978bbeecc588fc89b3ec3e659822099cc7f5329660138481445286f1511b"), looks := false }, kinds := [], alts := [], laidByText := true, laidKinds := [.data, .pinned], laidTests := true, laidLooks := .later }
def FieldsParsesCardSaid : Prop := Claim7.holds Tryd.pinned (.plain (OpenSpec.ofChange fieldsParsesSpec)) fieldsParsesCard

/-- THE TIED CARD OF 'conduitlaw04.FieldsPrints'. -/
def fieldsPrintsCard : Claim7 := { stood := { row := fieldsPrintsRow, standIns := [], harness := (true, "1baf978bbeecc588fc89b3ec3e659822099cc7f5329660138481445286f1511b"), looks := false }, kinds := [], alts := [], laidByText := true, laidKinds := [.data, .pinned], laidTests := true, laidLooks := .later }
def FieldsPrintsCardSaid : Prop := Claim7.holds Tryd.pinned (.plain (OpenSpec.ofChange fieldsPrintsSpec)) fieldsPrintsCard

/-- THE TIED CARD OF 'conduitlaw04.FieldsFinds'. -/
def fieldsFindsCard : Claim7 := { stood := { row := fieldsFindsRow, standIns := [], harness := (true, "1baf978bbeecc588fc89b3ec3e659822099cc7f5329660138481445286f1511b"), looks := false }, kinds := [], alts := [], laidByText := true, laidKinds := [.data, .pinned], laidTests := true, laidLooks := .later }
def FieldsFindsCardSaid : Prop := Claim7.holds Tryd.pinned (.plain (OpenSpec.ofChange fieldsFindsSpec)) fieldsFindsCard

/-- THE TIED CARD OF 'conduitlaw04.FieldsRound'. -/
def fieldsRoundCard : Claim7 := { stood := { row := fieldsRoundRow, standIns := [], harness := (true, "1baf978bbeecc588fc89b3ec3e659822099cc7f5329660138481445286f1511b"), looks := false }, kinds := [], alts := [], laidByText := true, laidKinds := [.data, .pinned], laidTests := true, laidLooks := .later }
def FieldsRoundCardSaid : Prop := Claim7.holds Tryd.pinned (.plain (OpenSpec.ofChange fieldsRoundSpec)) fieldsRoundCard

/-- THE TIED CARD OF 'conduitlaw04.FieldsPuts'. -/
def fieldsPutsCard : Claim7 := { stood := { row := fieldsPutsRow, standIns := [], harness := (true, "1baf978bbeecc588fc89b3ec3e659822099cc7f5329660138481445286f1511b"), looks := false }, kinds := [], alts := [], laidByText := true, laidKinds := [.data, .pinned], laidTests := true, laidLooks := .later }
def FieldsPutsCardSaid : Prop := Claim7.holds Tryd.pinned (.plain (OpenSpec.ofChange fieldsPutsSpec)) fieldsPutsCard

/-- THE SECOND FORM's CARD OF 'conduitlaw04.FieldsParses'. -/
def fieldsParsesUptoCard : Claim7 := { stood := { row := fieldsParsesUptoRow, standIns := [], harness := (true, "1baf978bbeecc588fc89b3ec3e659822099cc7f5329660138481445286f1511b"), looks := false }, kinds := [], alts := [], laidByText := true, laidKinds := [.data, .pinned], laidTests := true, laidLooks := .later }
def FieldsParsesUptoCardSaid : Prop := Claim7.holds Tryd.pinned (.plain (OpenSpec.upto fieldsParsesSpec)) fieldsParsesUptoCard

/-- THE SECOND FORM's CARD OF 'conduitlaw04.FieldsPrints'. -/
def fieldsPrintsUptoCard : Claim7 := { stood := { row := fieldsPrintsUptoRow, standIns := [], harness := (true, "1baf978bbeecc588fc89b3ec3e659822099cc7f5329660138481445286f1511b"), looks := false }, kinds := [], alts := [], laidByText := true, laidKinds := [.data, .pinned], laidTests := true, laidLooks := .later }
def FieldsPrintsUptoCardSaid : Prop := Claim7.holds Tryd.pinned (.plain (OpenSpec.upto fieldsPrintsSpec)) fieldsPrintsUptoCard

/-- THE SECOND FORM's CARD OF 'conduitlaw04.FieldsFinds'. -/
def fieldsFindsUptoCard : Claim7 := { stood := { row := fieldsFindsUptoRow, standIns := [], harness := (true, "1baf978bbeecc588fc89b3ec3e659822099cc7f5329660138481445286f1511b"), looks := false }, kinds := [], alts := [], laidByText := true, laidKinds := [.data, .pinned], laidTests := true, laidLooks := .later }
def FieldsFindsUptoCardSaid : Prop := Claim7.holds Tryd.pinned (.plain (OpenSpec.upto fieldsFindsSpec)) fieldsFindsUptoCard

/-- THE SECOND FORM's CARD OF 'conduitlaw04.FieldsRound'. -/
def fieldsRoundUptoCard : Claim7 := { stood := { row := fieldsRoundUptoRow, standIns := [], harness := (true, "1baf978bbeecc588fc89b3ec3e659822099cc7f5329660138481445286f1511b"), looks := false }, kinds := [], alts := [], laidByText := true, laidKinds := [.data, .pinned], laidTests := true, laidLooks := .later }
def FieldsRoundUptoCardSaid : Prop := Claim7.holds Tryd.pinned (.plain (OpenSpec.upto fieldsRoundSpec)) fieldsRoundUptoCard

/-- THE SECOND FORM's CARD OF 'conduitlaw04.FieldsPuts'. -/
def fieldsPutsUptoCard : Claim7 := { stood := { row := fieldsPutsUptoRow, standIns := [], harness := (true, "1baf978bbeecc588fc89b3ec3e659822099cc7f5329660138481445286f1511b"), looks := false }, kinds := [], alts := [], laidByText := true, laidKinds := [.data, .pinned], laidTests := true, laidLooks := .later }
def FieldsPutsUptoCardSaid : Prop := Claim7.holds Tryd.pinned (.plain (OpenSpec.upto fieldsPutsSpec)) fieldsPutsUptoCard
end Rows
end Go.Proofs.YtfefihnmmlbfjaaDoor
