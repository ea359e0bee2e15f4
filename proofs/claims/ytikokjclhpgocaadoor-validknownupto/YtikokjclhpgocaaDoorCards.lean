/-
  DERIVED. GIVEN WITH THE SEED: THE CARDS: each row of YtikokjclhpgocaaDoorRows.lean that lists a variable, with what it lists TIED to the program's text (the seventh form; the later family's looks); each row that meets fmt, with fmt's text TOLD by the authors' own Lean function (tested against real Go, not proved from fmt's source: count such statements apart). THE CARD IS WHAT COUNTS. Prove the row's statement (the work); the ties are given (YtikokjclhpgocaaDoorTie.lean); close each card by the builder's one call (the guide's Derived/Test/ToyasCard.lean, 'card_holds'). Laid BY PROGRAM, IN A SANDBOX (cutbox-door.mjs). By AI agents, Wed Nov 11 2026. No macro, syntax, notation, axiom, sorry.
-/
import Derived.Test.YtikokjclhpgocaaDoorRows
import GoSem.ClaimSeven
namespace Go.Proofs.YtikokjclhpgocaaDoor
namespace Rows

/-- THE TIED CARD OF 'conduitlaw18.ValidAsks'. -/
def validAsksCard : Claim7 := { stood := { row := validAsksRow, standIns := [], harness := (true, "287ee357a7e2865b5f0158a210daa4ed0f1319c66ad4a765606f34bceec28ec0"), looks := false }, kinds := [], alts := [], laidByText := true, laidKinds := [.data, .data, .data], laidTests := true, laidLooks := .later }
def ValidAsksCardSaid : Prop := Claim7.holds Tryd.pinned (.plain (OpenSpec.ofChange validAsksSpec)) validAsksCard

/-- THE TIED CARD OF 'conduitlaw18.ValidUnchanged'. -/
def validUnchangedCard : Claim7 := { stood := { row := validUnchangedRow, standIns := [], harness := (true, "287ee357a7e2865b5f0158a210daa4ed0f1319c66ad4a765606f34bceec28ec0"), looks := false }, kinds := [], alts := [], laidByText := true, laidKinds := [.data, .data, .data, .data, .pinned], laidTests := true, laidLooks := .later }
def ValidUnchangedCardSaid : Prop := Claim7.holds Tryd.pinned (.plain (OpenSpec.ofChange validUnchangedSpec)) validUnchangedCard

/-- THE TIED CARD OF 'conduitlaw18.ValidKnown'. -/
def validKnownCard : Claim7 := { stood := { row := validKnownRow, standIns := [], harness := (true, "287ee357a7e2865b5f0158a210daa4ed0f1319c66ad4a765606f34bceec28ec0"), looks := false }, kinds := [], alts := [], laidByText := true, laidKinds := [.data, .data, .data, .data, .pinned], laidTests := true, laidLooks := .later }
def ValidKnownCardSaid : Prop := Claim7.holds Tryd.pinned (.plain (OpenSpec.ofChange validKnownSpec)) validKnownCard

/-- THE SECOND FORM's CARD OF 'conduitlaw18.ValidAsks'. -/
def validAsksUptoCard : Claim7 := { stood := { row := validAsksUptoRow, standIns := [], harness := (true, "287ee357a7e2865b5f0158a210daa4ed0f1319c66ad4a765606f34bceec28ec0"), looks := false }, kinds := [], alts := [], laidByText := true, laidKinds := [.data, .data, .data], laidTests := true, laidLooks := .later }
def ValidAsksUptoCardSaid : Prop := Claim7.holds Tryd.pinned (.plain (OpenSpec.upto validAsksSpec)) validAsksUptoCard

/-- THE SECOND FORM's CARD OF 'conduitlaw18.ValidUnchanged'. -/
def validUnchangedUptoCard : Claim7 := { stood := { row := validUnchangedUptoRow, standIns := [], harness := (true, "287ee357a7e2865b5f0158a210daa4ed0f1319c66ad4a765606f34bceec28ec0"), looks := false }, kinds := [], alts := [], laidByText := true, laidKinds := [.data, .data, .data, .data, .pinned], laidTests := true, laidLooks := .later }
def ValidUnchangedUptoCardSaid : Prop := Claim7.holds Tryd.pinned (.plain (OpenSpec.upto validUnchangedSpec)) validUnchangedUptoCard

/-- THE SECOND FORM's CARD OF 'conduitlaw18.ValidKnown'. -/
def validKnownUptoCard : Claim7 := { stood := { row := validKnownUptoRow, standIns := [], harness := (true, "287ee357a7e2865b5f0158a210daa4ed0f1319c66ad4a765606f34bceec28ec0"), looks := false }, kinds := [], alts := [], laidByText := true, laidKinds := [.data, .data, .data, .data, .pinned], laidTests := true, laidLooks := .later }
def ValidKnownUptoCardSaid : Prop := Claim7.holds Tryd.pinned (.plain (OpenSpec.upto validKnownSpec)) validKnownUptoCard
end Rows
end Go.Proofs.YtikokjclhpgocaaDoor
