/-
  No cell of these rows narrows 'for every input' (looked for: loops, veiled, ifaces, maps, wideKeys, modest, calm, conditions, laid).
  DERIVED. THE GIVEN ROWS OF THIS SEAT. 5 by the template 'for every input the law returns true; each argument reads behind the call as it read before'; 0 by the template 'total and deterministic' (their statements: YtmejbgnaoaiooaaGreatTotals.lean).
  GIVEN WITH THE SEED: the statements are not yours to turn. If you find one false, say at which input.
  Laid BY PROGRAM, IN A SANDBOX (cutbox-rows.mjs): the forced cells as the released guide's own fill.sh prints them over the translation 136665d574d7f9df… (all of the seat's roots in one cut). By AI agents, Wed Nov 11 2026. No macro, syntax, notation, axiom, sorry.
-/
import Derived.Test.YtmejbgnaoaiooaaGreatChecked
import GoSem.Claim
import GoSem.ClaimJoined
import GoSem.ClaimMapViews
import Derived.JoinedTies
import Derived.KernelRfl
namespace Go.Proofs.YtmejbgnaoaiooaaGreat
/- THE CELL 'sum', in the pinned program and in every row, IS THE sha256 OF THE DUMP (.gsa) THAT YtmejbgnaoaiooaaGreatProg.lean LOADS. Nothing in Lean hashes anything: it is a label: what it is worth is what the hold of that sum in a sandbox is worth. -/
noncomputable def Tryz.pinned : Pinned := { name := "ytmejbgnaoaiooaagreat", sum := "136665d574d7f9df64ff9b18581503509045d3b31a55c56c48f34af67d19f0b2", checked := Tryz.checked }
namespace Rows
def none {H : Type} : Left H := { results := [], args := [] }

/-- 'conduitlaw11.SwaplogReplays': WHATEVER THE INPUT: true; the input reads as it did. -/
def swaplogReplaysSpec : ChangeSpec := { name := "swaplogReplays", fn := fun _ => fun
  | [d] => { results := [.lit (.bool true)], args := [d] }
  | _ => none }
def swaplogReplaysRow : OpenClaim := { program := "ytmejbgnaoaiooaagreat", sum := "136665d574d7f9df64ff9b18581503509045d3b31a55c56c48f34af67d19f0b2", func := "conduit/conduitlaw11.SwaplogReplays", spec := "swaplogReplays", inPlace := ["internal/bytealg.IndexByteString", "maps.clone"], unfollowed := true, recurses := true, apart := false }
def SwaplogReplaysSaid : Prop := swaplogReplaysRow.holds Tryz.pinned (OpenSpec.ofChange swaplogReplaysSpec)

/-- ITS FALSE NEIGHBOUR: 'it returns false'. Refute it at one input. -/
def swaplogReplaysWrong : ChangeSpec := { name := "swaplogReplays", fn := fun _ => fun
  | [d] => { results := [.lit (.bool false)], args := [d] }
  | _ => none }
def SwaplogReplaysWrongFalsely : Prop := swaplogReplaysRow.holds Tryz.pinned (OpenSpec.ofChange swaplogReplaysWrong)

/-- 'conduitlaw11.SwaplogSteps': WHATEVER THE INPUT: true; the input reads as it did. -/
def swaplogStepsSpec : ChangeSpec := { name := "swaplogSteps", fn := fun _ => fun
  | [d1, d2, d3] => { results := [.lit (.bool true)], args := [d1, d2, d3] }
  | _ => none }
def swaplogStepsRow : OpenClaim := { program := "ytmejbgnaoaiooaagreat", sum := "136665d574d7f9df64ff9b18581503509045d3b31a55c56c48f34af67d19f0b2", func := "conduit/conduitlaw11.SwaplogSteps", spec := "swaplogSteps", inPlace := ["internal/bytealg.IndexByteString", "maps.clone"], unfollowed := true, recurses := true, apart := false }
def SwaplogStepsSaid : Prop := swaplogStepsRow.holds Tryz.pinned (OpenSpec.ofChange swaplogStepsSpec)

/-- ITS FALSE NEIGHBOUR: 'it returns false'. Refute it at one input. -/
def swaplogStepsWrong : ChangeSpec := { name := "swaplogSteps", fn := fun _ => fun
  | [d1, d2, d3] => { results := [.lit (.bool false)], args := [d1, d2, d3] }
  | _ => none }
def SwaplogStepsWrongFalsely : Prop := swaplogStepsRow.holds Tryz.pinned (OpenSpec.ofChange swaplogStepsWrong)

/-- 'conduitlaw11.SwaplogSurvives': WHATEVER THE INPUT: true; the input reads as it did. -/
def swaplogSurvivesSpec : ChangeSpec := { name := "swaplogSurvives", fn := fun _ => fun
  | [d1, d2, d3] => { results := [.lit (.bool true)], args := [d1, d2, d3] }
  | _ => none }
def swaplogSurvivesRow : OpenClaim := { program := "ytmejbgnaoaiooaagreat", sum := "136665d574d7f9df64ff9b18581503509045d3b31a55c56c48f34af67d19f0b2", func := "conduit/conduitlaw11.SwaplogSurvives", spec := "swaplogSurvives", inPlace := ["internal/bytealg.IndexByteString", "maps.clone"], unfollowed := true, recurses := true, apart := false }
def SwaplogSurvivesSaid : Prop := swaplogSurvivesRow.holds Tryz.pinned (OpenSpec.ofChange swaplogSurvivesSpec)

/-- ITS FALSE NEIGHBOUR: 'it returns false'. Refute it at one input. -/
def swaplogSurvivesWrong : ChangeSpec := { name := "swaplogSurvives", fn := fun _ => fun
  | [d1, d2, d3] => { results := [.lit (.bool false)], args := [d1, d2, d3] }
  | _ => none }
def SwaplogSurvivesWrongFalsely : Prop := swaplogSurvivesRow.holds Tryz.pinned (OpenSpec.ofChange swaplogSurvivesWrong)

/-- 'conduitlaw11.SwaplogTurns': WHATEVER THE INPUT: true; the input reads as it did. -/
def swaplogTurnsSpec : ChangeSpec := { name := "swaplogTurns", fn := fun _ => fun
  | [d1, d2, d3, d4] => { results := [.lit (.bool true)], args := [d1, d2, d3, d4] }
  | _ => none }
def swaplogTurnsRow : OpenClaim := { program := "ytmejbgnaoaiooaagreat", sum := "136665d574d7f9df64ff9b18581503509045d3b31a55c56c48f34af67d19f0b2", func := "conduit/conduitlaw11.SwaplogTurns", spec := "swaplogTurns", inPlace := ["internal/bytealg.IndexByteString", "maps.clone"], unfollowed := true, recurses := true, apart := false }
def SwaplogTurnsSaid : Prop := swaplogTurnsRow.holds Tryz.pinned (OpenSpec.ofChange swaplogTurnsSpec)

/-- ITS FALSE NEIGHBOUR: 'it returns false'. Refute it at one input. -/
def swaplogTurnsWrong : ChangeSpec := { name := "swaplogTurns", fn := fun _ => fun
  | [d1, d2, d3, d4] => { results := [.lit (.bool false)], args := [d1, d2, d3, d4] }
  | _ => none }
def SwaplogTurnsWrongFalsely : Prop := swaplogTurnsRow.holds Tryz.pinned (OpenSpec.ofChange swaplogTurnsWrong)

/-- 'conduitlaw11.SwaplogSound': WHATEVER THE INPUT: true; the input reads as it did. -/
def swaplogSoundSpec : ChangeSpec := { name := "swaplogSound", fn := fun _ => fun
  | [d1, d2, d3, d4] => { results := [.lit (.bool true)], args := [d1, d2, d3, d4] }
  | _ => none }
def swaplogSoundRow : OpenClaim := { program := "ytmejbgnaoaiooaagreat", sum := "136665d574d7f9df64ff9b18581503509045d3b31a55c56c48f34af67d19f0b2", func := "conduit/conduitlaw11.SwaplogSound", spec := "swaplogSound", inPlace := ["internal/bytealg.IndexByteString", "maps.clone"], unfollowed := true, recurses := true, apart := false }
def SwaplogSoundSaid : Prop := swaplogSoundRow.holds Tryz.pinned (OpenSpec.ofChange swaplogSoundSpec)

/-- ITS FALSE NEIGHBOUR: 'it returns false'. Refute it at one input. -/
def swaplogSoundWrong : ChangeSpec := { name := "swaplogSound", fn := fun _ => fun
  | [d1, d2, d3, d4] => { results := [.lit (.bool false)], args := [d1, d2, d3, d4] }
  | _ => none }
def SwaplogSoundWrongFalsely : Prop := swaplogSoundRow.holds Tryz.pinned (OpenSpec.ofChange swaplogSoundWrong)

/- THE SECOND FORM. 'bulk': how many values and letters a reading holds, each counted each time it is reached (what is shared counts as often as it is met; a slice's spare places count too). A statement '..UptoSaid' is the law's where the arguments, and the package variables that the reading takes, are together of bulk at most 1048576: NARROWER than '..Said'. Prove '..Said' where nothing that the law and all that it calls make is longer than what came in: it says more and counts as full. Else prove '..UptoSaid'. A law counts once. -/
mutual
def uptoBulk {H : Type} : DataW H → Nat
  | .lit (.string bytes) => bytes.length + 1
  | .lit _ => 1
  | .nil => 1
  | .ptr d => uptoBulk d + 1
  | .slice elems spare => uptoBulkAll elems + uptoBulkAll spare + 1
  | .agg parts => uptoBulkAll parts + 1
  | .iface _ d => uptoBulk d + 1
  | .map entries => uptoBulkEntries entries + 1
  | .held _ => 1
def uptoBulkAll {H : Type} : List (DataW H) → Nat
  | [] => 0
  | d :: r => uptoBulk d + uptoBulkAll r
def uptoBulkEntries {H : Type} : List (Lit × DataW H) → Nat
  | [] => 0
  | x :: r => uptoBulkEntry x + uptoBulkEntries r
def uptoBulkEntry {H : Type} : Lit × DataW H → Nat
  | (.string bytes, d) => bytes.length + uptoBulk d + 1
  | (_, d) => uptoBulk d + 1
 end
def uptoSmall : (H : Type) → List (DataW H) → Bool := fun _ ds => decide (uptoBulkAll ds ≤ 1048576)
def OpenSpec.upto (s : _root_.Go.ChangeSpec) : _root_.Go.OpenSpec := { _root_.Go.OpenSpec.ofChange s with cond := some uptoSmall }

/-- 'conduitlaw11.SwaplogReplays', WHERE WHAT IT READS IS OF BULK AT MOST 1048576: true; the input reads as it did. -/
def swaplogReplaysUptoRow : OpenClaim := { program := "ytmejbgnaoaiooaagreat", sum := "136665d574d7f9df64ff9b18581503509045d3b31a55c56c48f34af67d19f0b2", func := "conduit/conduitlaw11.SwaplogReplays", spec := "swaplogReplays", inPlace := ["internal/bytealg.IndexByteString", "maps.clone"], unfollowed := true, recurses := true, apart := false, narrowed := true }
def SwaplogReplaysUptoSaid : Prop := swaplogReplaysUptoRow.holds Tryz.pinned (OpenSpec.upto swaplogReplaysSpec)

/-- 'conduitlaw11.SwaplogSteps', WHERE WHAT IT READS IS OF BULK AT MOST 1048576: true; the input reads as it did. -/
def swaplogStepsUptoRow : OpenClaim := { program := "ytmejbgnaoaiooaagreat", sum := "136665d574d7f9df64ff9b18581503509045d3b31a55c56c48f34af67d19f0b2", func := "conduit/conduitlaw11.SwaplogSteps", spec := "swaplogSteps", inPlace := ["internal/bytealg.IndexByteString", "maps.clone"], unfollowed := true, recurses := true, apart := false, narrowed := true }
def SwaplogStepsUptoSaid : Prop := swaplogStepsUptoRow.holds Tryz.pinned (OpenSpec.upto swaplogStepsSpec)

/-- 'conduitlaw11.SwaplogSurvives', WHERE WHAT IT READS IS OF BULK AT MOST 1048576: true; the input reads as it did. -/
def swaplogSurvivesUptoRow : OpenClaim := { program := "ytmejbgnaoaiooaagreat", sum := "136665d574d7f9df64ff9b18581503509045d3b31a55c56c48f34af67d19f0b2", func := "conduit/conduitlaw11.SwaplogSurvives", spec := "swaplogSurvives", inPlace := ["internal/bytealg.IndexByteString", "maps.clone"], unfollowed := true, recurses := true, apart := false, narrowed := true }
def SwaplogSurvivesUptoSaid : Prop := swaplogSurvivesUptoRow.holds Tryz.pinned (OpenSpec.upto swaplogSurvivesSpec)

/-- 'conduitlaw11.SwaplogTurns', WHERE WHAT IT READS IS OF BULK AT MOST 1048576: true; the input reads as it did. -/
def swaplogTurnsUptoRow : OpenClaim := { program := "ytmejbgnaoaiooaagreat", sum := "136665d574d7f9df64ff9b18581503509045d3b31a55c56c48f34af67d19f0b2", func := "conduit/conduitlaw11.SwaplogTurns", spec := "swaplogTurns", inPlace := ["internal/bytealg.IndexByteString", "maps.clone"], unfollowed := true, recurses := true, apart := false, narrowed := true }
def SwaplogTurnsUptoSaid : Prop := swaplogTurnsUptoRow.holds Tryz.pinned (OpenSpec.upto swaplogTurnsSpec)

/-- 'conduitlaw11.SwaplogSound', WHERE WHAT IT READS IS OF BULK AT MOST 1048576: true; the input reads as it did. -/
def swaplogSoundUptoRow : OpenClaim := { program := "ytmejbgnaoaiooaagreat", sum := "136665d574d7f9df64ff9b18581503509045d3b31a55c56c48f34af67d19f0b2", func := "conduit/conduitlaw11.SwaplogSound", spec := "swaplogSound", inPlace := ["internal/bytealg.IndexByteString", "maps.clone"], unfollowed := true, recurses := true, apart := false, narrowed := true }
def SwaplogSoundUptoSaid : Prop := swaplogSoundUptoRow.holds Tryz.pinned (OpenSpec.upto swaplogSoundSpec)

end Rows
end Go.Proofs.YtmejbgnaoaiooaaGreat
