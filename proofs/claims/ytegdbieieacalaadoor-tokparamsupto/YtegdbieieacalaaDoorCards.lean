/-
  DERIVED. GIVEN WITH THE SEED: THE CARDS: each row of YtegdbieieacalaaDoorRows.lean that lists a variable, with what it lists TIED to the program's text (the seventh form; the later family's looks); each row that meets fmt, with fmt's text TOLD by the authors' own Lean function (tested against real Go, not proved from fmt's source: count such statements apart). THE CARD IS WHAT COUNTS. Prove the row's statement (the work); the ties are given (YtegdbieieacalaaDoorTie.lean); close each card by the builder's one call (the guide's Derived/Test/ToyasCard.lean, 'card_holds'). Laid BY PROGRAM, IN A SANDBOX (cutbox-door.mjs). By AI agents, Wed Nov 11 2026. No macro, syntax, notation, axiom, sorry.
-/
import Derived.Test.YtegdbieieacalaaDoorRows
import GoSem.ClaimSeven
namespace Go.Proofs.YtegdbieieacalaaDoor
namespace Rows

/-- THE TIED CARD OF 'conduitlaw01.TokTokens'. -/
def tokTokensCard : Claim7 := { stood := { row := tokTokensRow, standIns := [], harness := (true, "bf15c9e33a36c5f5b18bd2560ae0223382e2879e68f67875b0e3fd07ac7902ac"), looks := false }, kinds := [], alts := [], laidByText := true, laidKinds := [.data, .pinned], laidTests := true, laidLooks := .later }
def TokTokensCardSaid : Prop := Claim7.holds Tryd.pinned (.plain (OpenSpec.ofChange tokTokensSpec)) tokTokensCard

/-- THE TIED CARD OF 'conduitlaw01.TokLists'. -/
def tokListsCard : Claim7 := { stood := { row := tokListsRow, standIns := [], harness := (true, "bf15c9e33a36c5f5b18bd2560ae0223382e2879e68f67875b0e3fd07ac7902ac"), looks := false }, kinds := [], alts := [], laidByText := true, laidKinds := [.data, .pinned], laidTests := true, laidLooks := .later }
def TokListsCardSaid : Prop := Claim7.holds Tryd.pinned (.plain (OpenSpec.ofChange tokListsSpec)) tokListsCard

/-- THE TIED CARD OF 'conduitlaw01.TokRound'. -/
def tokRoundCard : Claim7 := { stood := { row := tokRoundRow, standIns := [], harness := (true, "bf15c9e33a36c5f5b18bd2560ae0223382e2879e68f67875b0e3fd07ac7902ac"), looks := false }, kinds := [], alts := [], laidByText := true, laidKinds := [.data, .pinned], laidTests := true, laidLooks := .later }
def TokRoundCardSaid : Prop := Claim7.holds Tryd.pinned (.plain (OpenSpec.ofChange tokRoundSpec)) tokRoundCard

/-- THE TIED CARD OF 'conduitlaw01.TokParams'. -/
def tokParamsCard : Claim7 := { stood := { row := tokParamsRow, standIns := [], harness := (true, "bf15c9e33a36c5f5b18bd2560ae0223382e2879e68f67875b0e3fd07ac7902ac"), looks := false }, kinds := [], alts := [], laidByText := true, laidKinds := [.data, .pinned], laidTests := true, laidLooks := .later }
def TokParamsCardSaid : Prop := Claim7.holds Tryd.pinned (.plain (OpenSpec.ofChange tokParamsSpec)) tokParamsCard

/-- THE SECOND FORM's CARD OF 'conduitlaw01.TokTokens'. -/
def tokTokensUptoCard : Claim7 := { stood := { row := tokTokensUptoRow, standIns := [], harness := (true, "bf15c9e33a36c5f5b18bd2560ae0223382e2879e68f67875b0e3fd07ac7902ac"), looks := false }, kinds := [], alts := [], laidByText := true, laidKinds := [.data, .pinned], laidTests := true, laidLooks := .later }
def TokTokensUptoCardSaid : Prop := Claim7.holds Tryd.pinned (.plain (OpenSpec.upto tokTokensSpec)) tokTokensUptoCard

/-- THE SECOND FORM's CARD OF 'conduitlaw01.TokLists'. -/
def tokListsUptoCard : Claim7 := { stood := { row := tokListsUptoRow, standIns := [], harness := (true, "bf15c9e33a36c5f5b18bd2560ae0223382e2879e68f67875b0e3fd07ac7902ac"), looks := false }, kinds := [], alts := [], laidByText := true, laidKinds := [.data, .pinned], laidTests := true, laidLooks := .later }
def TokListsUptoCardSaid : Prop := Claim7.holds Tryd.pinned (.plain (OpenSpec.upto tokListsSpec)) tokListsUptoCard

/-- THE SECOND FORM's CARD OF 'conduitlaw01.TokRound'. -/
def tokRoundUptoCard : Claim7 := { stood := { row := tokRoundUptoRow, standIns := [], harness := (true, "bf15c9e33a36c5f5b18bd2560ae0223382e2879e68f67875b0e3fd07ac7902ac"), looks := false }, kinds := [], alts := [], laidByText := true, laidKinds := [.data, .pinned], laidTests := true, laidLooks := .later }
def TokRoundUptoCardSaid : Prop := Claim7.holds Tryd.pinned (.plain (OpenSpec.upto tokRoundSpec)) tokRoundUptoCard

/-- THE SECOND FORM's CARD OF 'conduitlaw01.TokParams'. -/
def tokParamsUptoCard : Claim7 := { stood := { row := tokParamsUptoRow, standIns := [], harness := (true, "bf15c9e33a36c5f5b18bd2560ae0223382e2879e68f67875b0e3fd07ac7902ac"), looks := false }, kinds := [], alts := [], laidByText := true, laidKinds := [.data, .pinned], laidTests := true, laidLooks := .later }
def TokParamsUptoCardSaid : Prop := Claim7.holds Tryd.pinned (.plain (OpenSpec.upto tokParamsSpec)) tokParamsUptoCard
end Rows
end Go.Proofs.YtegdbieieacalaaDoor
