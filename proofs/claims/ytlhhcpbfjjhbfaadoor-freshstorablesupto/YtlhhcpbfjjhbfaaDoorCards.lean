/-
  DERIVED. GIVEN WITH THE SEED: THE CARDS: each row of YtlhhcpbfjjhbfaaDoorRows.lean that lists a variable, with what it lists TIED to the program's text (the seventh form; the later family's looks); each row that meets fmt, with fmt's text TOLD by the authors' own Lean function (tested against real Go, not proved from fmt's source: count such statements apart). THE CARD IS WHAT COUNTS. Prove the row's statement (the work); the ties are given (YtlhhcpbfjjhbfaaDoorTie.lean); close each card by the builder's one call (the guide's Derived/Test/ToyasCard.lean, 'card_holds'). Laid BY PROGRAM, IN A SANDBOX (cutbox-door.mjs). By AI agents, Wed Nov 11 2026. No macro, syntax, notation, axiom, sorry.
-/
import Derived.Test.YtlhhcpbfjjhbfaaDoorRows
import GoSem.ClaimSeven
namespace Go.Proofs.YtlhhcpbfjjhbfaaDoor
namespace Rows

/-- THE TIED CARD OF 'conduitlaw16.FreshStorables'. -/
def freshStorablesCard : Claim7 := { stood := { row := freshStorablesRow, standIns := [], harness := (true, "786b6e4c7f44eb3096e1021c4fce8a875080e518e7b2baf92dfc156499f4780e"), looks := false }, kinds := [], alts := [], laidByText := true, laidKinds := [.data, .pinned], laidTests := true, laidLooks := .later }
def FreshStorablesCardSaid : Prop := Claim7.holds Tryd.pinned (.plain (OpenSpec.ofChange freshStorablesSpec)) freshStorablesCard

/-- THE TIED CARD OF 'conduitlaw16.FreshAges'. -/
def freshAgesCard : Claim7 := { stood := { row := freshAgesRow, standIns := [], harness := (true, "786b6e4c7f44eb3096e1021c4fce8a875080e518e7b2baf92dfc156499f4780e"), looks := false }, kinds := [], alts := [], laidByText := true, laidKinds := [.data, .data, .data, .data, .pinned], laidTests := true, laidLooks := .later }
def FreshAgesCardSaid : Prop := Claim7.holds Tryd.pinned (.plain (OpenSpec.ofChange freshAgesSpec)) freshAgesCard

/-- THE TIED CARD OF 'conduitlaw16.FreshOnce'. -/
def freshOnceCard : Claim7 := { stood := { row := freshOnceRow, standIns := [], harness := (true, "786b6e4c7f44eb3096e1021c4fce8a875080e518e7b2baf92dfc156499f4780e"), looks := false }, kinds := [], alts := [], laidByText := true, laidKinds := [.data, .data, .data, .data, .pinned], laidTests := true, laidLooks := .later }
def FreshOnceCardSaid : Prop := Claim7.holds Tryd.pinned (.plain (OpenSpec.ofChange freshOnceSpec)) freshOnceCard

/-- THE TIED CARD OF 'conduitlaw16.FreshServed'. -/
def freshServedCard : Claim7 := { stood := { row := freshServedRow, standIns := [], harness := (true, "786b6e4c7f44eb3096e1021c4fce8a875080e518e7b2baf92dfc156499f4780e"), looks := false }, kinds := [], alts := [], laidByText := true, laidKinds := [.data, .data, .data, .data, .pinned], laidTests := true, laidLooks := .later }
def FreshServedCardSaid : Prop := Claim7.holds Tryd.pinned (.plain (OpenSpec.ofChange freshServedSpec)) freshServedCard

/-- THE SECOND FORM's CARD OF 'conduitlaw16.FreshStorables'. -/
def freshStorablesUptoCard : Claim7 := { stood := { row := freshStorablesUptoRow, standIns := [], harness := (true, "786b6e4c7f44eb3096e1021c4fce8a875080e518e7b2baf92dfc156499f4780e"), looks := false }, kinds := [], alts := [], laidByText := true, laidKinds := [.data, .pinned], laidTests := true, laidLooks := .later }
def FreshStorablesUptoCardSaid : Prop := Claim7.holds Tryd.pinned (.plain (OpenSpec.upto freshStorablesSpec)) freshStorablesUptoCard

/-- THE SECOND FORM's CARD OF 'conduitlaw16.FreshAges'. -/
def freshAgesUptoCard : Claim7 := { stood := { row := freshAgesUptoRow, standIns := [], harness := (true, "786b6e4c7f44eb3096e1021c4fce8a875080e518e7b2baf92dfc156499f4780e"), looks := false }, kinds := [], alts := [], laidByText := true, laidKinds := [.data, .data, .data, .data, .pinned], laidTests := true, laidLooks := .later }
def FreshAgesUptoCardSaid : Prop := Claim7.holds Tryd.pinned (.plain (OpenSpec.upto freshAgesSpec)) freshAgesUptoCard

/-- THE SECOND FORM's CARD OF 'conduitlaw16.FreshOnce'. -/
def freshOnceUptoCard : Claim7 := { stood := { row := freshOnceUptoRow, standIns := [], harness := (true, "786b6e4c7f44eb3096e1021c4fce8a875080e518e7b2baf92dfc156499f4780e"), looks := false }, kinds := [], alts := [], laidByText := true, laidKinds := [.data, .data, .data, .data, .pinned], laidTests := true, laidLooks := .later }
def FreshOnceUptoCardSaid : Prop := Claim7.holds Tryd.pinned (.plain (OpenSpec.upto freshOnceSpec)) freshOnceUptoCard

/-- THE SECOND FORM's CARD OF 'conduitlaw16.FreshServed'. -/
def freshServedUptoCard : Claim7 := { stood := { row := freshServedUptoRow, standIns := [], harness := (true, "786b6e4c7f44eb3096e1021c4fce8a875080e518e7b2baf92dfc156499f4780e"), looks := false }, kinds := [], alts := [], laidByText := true, laidKinds := [.data, .data, .data, .data, .pinned], laidTests := true, laidLooks := .later }
def FreshServedUptoCardSaid : Prop := Claim7.holds Tryd.pinned (.plain (OpenSpec.upto freshServedSpec)) freshServedUptoCard
end Rows
end Go.Proofs.YtlhhcpbfjjhbfaaDoor
