/-
  NARROWER THAN 'FOR EVERY INPUT', by the rows' own cells (each row's printed sentence says how): ValidAsks: laid · ValidUnchanged: laid · ValidKnown: laid.
  DERIVED. THE GIVEN ROWS OF THIS SEAT. 3 by the template 'for every input the law returns true; each argument reads behind the call as it read before'; 0 by the template 'total and deterministic' (their statements: YtikokjclhpgocaaDoorTotals.lean).
  GIVEN WITH THE SEED: the statements are not yours to turn. If you find one false, say at which input.
  Laid BY PROGRAM, IN A SANDBOX (cutbox-rows.mjs): the forced cells as the released guide's own fill.sh prints them over the translation f23990459a5773e9… (all of the seat's roots in one cut). By AI agents, Wed Nov 11 2026. No macro, syntax, notation, axiom, sorry.
-/
import Derived.Test.YtikokjclhpgocaaDoorChecked
import GoSem.PinnedTables
import GoSem.Claim
import GoSem.ClaimJoined
import GoSem.ClaimMapViews
import Derived.JoinedTies
import Derived.KernelRfl
namespace Go.Proofs.YtikokjclhpgocaaDoor
/- THE CELL 'sum', in the pinned program and in every row, IS THE sha256 OF THE DUMP (.gsa) THAT YtikokjclhpgocaaDoorProg.lean LOADS. Nothing in Lean hashes anything: it is a label: what it is worth is what the hold of that sum in a sandbox is worth. -/
noncomputable def Tryd.pinned : Pinned := { name := "ytikokjclhpgocaadoor", sum := "f23990459a5773e9adff2a9881a5921623ca2f207eccadf0fa826200ac60ce9a", checked := Tryd.checked }
namespace Rows
def none {H : Type} : Left H := { results := [], args := [] }

/- WHAT THE LISTED PACKAGE-LEVEL VARIABLES READ AS WHEN THE CALL BEGINS. Each datum BY PROGRAM (the guide's laid-datum.mjs) off the statement by which the dump's own 'gosem.cut.vars' lays the variable. In a bare row this is a premise. The card (YtikokjclhpgocaaDoorCards.lean) ties it to the program's text. -/
def laid_conduit_date_weekdays {H : Type} : DataW H := .agg [.lit (.string [84, 104, 117, 114, 115, 100, 97, 121]), .lit (.string [70, 114, 105, 100, 97, 121]), .lit (.string [83, 97, 116, 117, 114, 100, 97, 121]), .lit (.string [83, 117, 110, 100, 97, 121]), .lit (.string [77, 111, 110, 100, 97, 121]), .lit (.string [84, 117, 101, 115, 100, 97, 121]), .lit (.string [87, 101, 100, 110, 101, 115, 100, 97, 121])]
def laid_conduit_date_months {H : Type} : DataW H := .agg [.lit (.string [74, 97, 110]), .lit (.string [70, 101, 98]), .lit (.string [77, 97, 114]), .lit (.string [65, 112, 114]), .lit (.string [77, 97, 121]), .lit (.string [74, 117, 110]), .lit (.string [74, 117, 108]), .lit (.string [65, 117, 103]), .lit (.string [83, 101, 112]), .lit (.string [79, 99, 116]), .lit (.string [78, 111, 118]), .lit (.string [68, 101, 99])]
def laid_conduit_date_monthLengths {H : Type} : DataW H := .agg [.lit (.int .i64 31), .lit (.int .i64 28), .lit (.int .i64 31), .lit (.int .i64 30), .lit (.int .i64 31), .lit (.int .i64 30), .lit (.int .i64 31), .lit (.int .i64 31), .lit (.int .i64 30), .lit (.int .i64 31), .lit (.int .i64 30), .lit (.int .i64 31)]
def laid_unicode_utf8_acceptRanges {H : Type} : DataW H := .agg [.agg [.lit (.int .u8 128), .lit (.int .u8 191)], .agg [.lit (.int .u8 160), .lit (.int .u8 191)], .agg [.lit (.int .u8 128), .lit (.int .u8 159)], .agg [.lit (.int .u8 144), .lit (.int .u8 191)], .agg [.lit (.int .u8 128), .lit (.int .u8 143)], .agg [.lit (.int .u8 0), .lit (.int .u8 0)], .agg [.lit (.int .u8 0), .lit (.int .u8 0)], .agg [.lit (.int .u8 0), .lit (.int .u8 0)], .agg [.lit (.int .u8 0), .lit (.int .u8 0)], .agg [.lit (.int .u8 0), .lit (.int .u8 0)], .agg [.lit (.int .u8 0), .lit (.int .u8 0)], .agg [.lit (.int .u8 0), .lit (.int .u8 0)], .agg [.lit (.int .u8 0), .lit (.int .u8 0)], .agg [.lit (.int .u8 0), .lit (.int .u8 0)], .agg [.lit (.int .u8 0), .lit (.int .u8 0)], .agg [.lit (.int .u8 0), .lit (.int .u8 0)]]
/-- One of Go's own tables, pinned by name: the form's constant. -/
def laid_unicode_utf8_first : DataW Unit := Go.Pinned.utf8First

/-- 'conduitlaw18.ValidAsks': WHATEVER THE INPUT: true; the input reads as it did. -/
def validAsksSpec : ChangeSpec := { name := "validAsks", fn := fun _ => fun
  | [d] => { results := [.lit (.bool true)], args := [d] }
  | _ => none }
def validAsksRow : OpenClaim := { program := "ytikokjclhpgocaadoor", sum := "f23990459a5773e9adff2a9881a5921623ca2f207eccadf0fa826200ac60ce9a", func := "conduit/conduitlaw18.ValidAsks", spec := "validAsks", inPlace := ["internal/abi.NoEscape", "internal/bytealg.MakeNoZero", "internal/bytealg.IndexByteString", "internal/bytealg.IndexString"], named := ["conduit/date.weekdays", "internal/bytealg.MaxLen", "conduit/date.months", "conduit/date.monthLengths"], apart := false, laid := [("conduit/date.weekdays", laid_conduit_date_weekdays), ("conduit/date.months", laid_conduit_date_months), ("conduit/date.monthLengths", laid_conduit_date_monthLengths)] }
def ValidAsksSaid : Prop := validAsksRow.holds Tryd.pinned (OpenSpec.ofChange validAsksSpec)

/-- ITS FALSE NEIGHBOUR: 'it returns false'. Refute it at one input. -/
def validAsksWrong : ChangeSpec := { name := "validAsks", fn := fun _ => fun
  | [d] => { results := [.lit (.bool false)], args := [d] }
  | _ => none }
def ValidAsksWrongFalsely : Prop := validAsksRow.holds Tryd.pinned (OpenSpec.ofChange validAsksWrong)

/-- 'conduitlaw18.ValidUnchanged': WHATEVER THE INPUT: true; the input reads as it did. -/
def validUnchangedSpec : ChangeSpec := { name := "validUnchanged", fn := fun _ => fun
  | [d1, d2] => { results := [.lit (.bool true)], args := [d1, d2] }
  | _ => none }
def validUnchangedRow : OpenClaim := { program := "ytikokjclhpgocaadoor", sum := "f23990459a5773e9adff2a9881a5921623ca2f207eccadf0fa826200ac60ce9a", func := "conduit/conduitlaw18.ValidUnchanged", spec := "validUnchanged", inPlace := ["internal/abi.NoEscape", "internal/bytealg.MakeNoZero", "internal/bytealg.IndexByteString", "internal/bytealg.IndexString"], named := ["unicode/utf8.first", "unicode/utf8.acceptRanges", "conduit/date.weekdays", "internal/bytealg.MaxLen", "conduit/date.months", "conduit/date.monthLengths"], apart := false, laid := [("unicode/utf8.acceptRanges", laid_unicode_utf8_acceptRanges), ("conduit/date.weekdays", laid_conduit_date_weekdays), ("conduit/date.months", laid_conduit_date_months), ("conduit/date.monthLengths", laid_conduit_date_monthLengths), ("unicode/utf8.first", laid_unicode_utf8_first)] }
def ValidUnchangedSaid : Prop := validUnchangedRow.holds Tryd.pinned (OpenSpec.ofChange validUnchangedSpec)

/-- ITS FALSE NEIGHBOUR: 'it returns false'. Refute it at one input. -/
def validUnchangedWrong : ChangeSpec := { name := "validUnchanged", fn := fun _ => fun
  | [d1, d2] => { results := [.lit (.bool false)], args := [d1, d2] }
  | _ => none }
def ValidUnchangedWrongFalsely : Prop := validUnchangedRow.holds Tryd.pinned (OpenSpec.ofChange validUnchangedWrong)

/-- 'conduitlaw18.ValidKnown': WHATEVER THE INPUT: true; the input reads as it did. -/
def validKnownSpec : ChangeSpec := { name := "validKnown", fn := fun _ => fun
  | [d] => { results := [.lit (.bool true)], args := [d] }
  | _ => none }
def validKnownRow : OpenClaim := { program := "ytikokjclhpgocaadoor", sum := "f23990459a5773e9adff2a9881a5921623ca2f207eccadf0fa826200ac60ce9a", func := "conduit/conduitlaw18.ValidKnown", spec := "validKnown", inPlace := ["internal/abi.NoEscape", "internal/bytealg.MakeNoZero", "internal/bytealg.IndexByteString", "internal/bytealg.IndexString"], named := ["conduit/date.weekdays", "internal/bytealg.MaxLen", "conduit/date.months", "conduit/date.monthLengths", "unicode/utf8.first", "unicode/utf8.acceptRanges"], apart := false, laid := [("unicode/utf8.acceptRanges", laid_unicode_utf8_acceptRanges), ("conduit/date.weekdays", laid_conduit_date_weekdays), ("conduit/date.months", laid_conduit_date_months), ("conduit/date.monthLengths", laid_conduit_date_monthLengths), ("unicode/utf8.first", laid_unicode_utf8_first)] }
def ValidKnownSaid : Prop := validKnownRow.holds Tryd.pinned (OpenSpec.ofChange validKnownSpec)

/-- ITS FALSE NEIGHBOUR: 'it returns false'. Refute it at one input. -/
def validKnownWrong : ChangeSpec := { name := "validKnown", fn := fun _ => fun
  | [d] => { results := [.lit (.bool false)], args := [d] }
  | _ => none }
def ValidKnownWrongFalsely : Prop := validKnownRow.holds Tryd.pinned (OpenSpec.ofChange validKnownWrong)

/- THE SECOND FORM. 'bulk': how many values and letters a reading holds, each counted each time it is reached (what is shared counts as often as it is met; a slice's spare places count too). A statement '..UptoSaid' is the law's where the arguments, and the package variables that the reading takes, are together of bulk at most 1048576: NARROWER than '..Said'. Prove '..Said' where nothing that the law and all that it calls make is longer than what came in: it says more and counts as full. Else prove '..UptoSaid'. A law counts once. -/
mutual
def uptoBulk {H : Type} : DataW H → Nat
  | .lit (.string bytes) => bytes.length + 1
  | .lit _ => 1
  | .nil => 1
  | .ptr d => uptoBulk d + 1
  | .slice elems spare => uptoBulkAll elems + uptoBulkAll spare + 1
  | .agg parts => uptoBulkAll parts + 1
  | .iface _ d => uptoBulk d + 1
  | .map entries => uptoBulkEntries entries + 1
  | .held _ => 1
def uptoBulkAll {H : Type} : List (DataW H) → Nat
  | [] => 0
  | d :: r => uptoBulk d + uptoBulkAll r
def uptoBulkEntries {H : Type} : List (Lit × DataW H) → Nat
  | [] => 0
  | x :: r => uptoBulkEntry x + uptoBulkEntries r
def uptoBulkEntry {H : Type} : Lit × DataW H → Nat
  | (.string bytes, d) => bytes.length + uptoBulk d + 1
  | (_, d) => uptoBulk d + 1
 end
def uptoSmall : (H : Type) → List (DataW H) → Bool := fun _ ds => decide (uptoBulkAll ds ≤ 1048576)
def OpenSpec.upto (s : _root_.Go.ChangeSpec) : _root_.Go.OpenSpec := { _root_.Go.OpenSpec.ofChange s with cond := some uptoSmall }

/-- 'conduitlaw18.ValidAsks', WHERE WHAT IT READS IS OF BULK AT MOST 1048576: true; the input reads as it did. -/
def validAsksUptoRow : OpenClaim := { program := "ytikokjclhpgocaadoor", sum := "f23990459a5773e9adff2a9881a5921623ca2f207eccadf0fa826200ac60ce9a", func := "conduit/conduitlaw18.ValidAsks", spec := "validAsks", inPlace := ["internal/abi.NoEscape", "internal/bytealg.MakeNoZero", "internal/bytealg.IndexByteString", "internal/bytealg.IndexString"], named := ["conduit/date.weekdays", "internal/bytealg.MaxLen", "conduit/date.months", "conduit/date.monthLengths"], apart := false, laid := [("conduit/date.weekdays", laid_conduit_date_weekdays), ("conduit/date.months", laid_conduit_date_months), ("conduit/date.monthLengths", laid_conduit_date_monthLengths)], narrowed := true }
def ValidAsksUptoSaid : Prop := validAsksUptoRow.holds Tryd.pinned (OpenSpec.upto validAsksSpec)

/-- 'conduitlaw18.ValidUnchanged', WHERE WHAT IT READS IS OF BULK AT MOST 1048576: true; the input reads as it did. -/
def validUnchangedUptoRow : OpenClaim := { program := "ytikokjclhpgocaadoor", sum := "f23990459a5773e9adff2a9881a5921623ca2f207eccadf0fa826200ac60ce9a", func := "conduit/conduitlaw18.ValidUnchanged", spec := "validUnchanged", inPlace := ["internal/abi.NoEscape", "internal/bytealg.MakeNoZero", "internal/bytealg.IndexByteString", "internal/bytealg.IndexString"], named := ["unicode/utf8.first", "unicode/utf8.acceptRanges", "conduit/date.weekdays", "internal/bytealg.MaxLen", "conduit/date.months", "conduit/date.monthLengths"], apart := false, laid := [("unicode/utf8.acceptRanges", laid_unicode_utf8_acceptRanges), ("conduit/date.weekdays", laid_conduit_date_weekdays), ("conduit/date.months", laid_conduit_date_months), ("conduit/date.monthLengths", laid_conduit_date_monthLengths), ("unicode/utf8.first", laid_unicode_utf8_first)], narrowed := true }
def ValidUnchangedUptoSaid : Prop := validUnchangedUptoRow.holds Tryd.pinned (OpenSpec.upto validUnchangedSpec)

/-- 'conduitlaw18.ValidKnown', WHERE WHAT IT READS IS OF BULK AT MOST 1048576: true; the input reads as it did. -/
def validKnownUptoRow : OpenClaim := { program := "ytikokjclhpgocaadoor", sum := "f23990459a5773e9adff2a9881a5921623ca2f207eccadf0fa826200ac60ce9a", func := "conduit/conduitlaw18.ValidKnown", spec := "validKnown", inPlace := ["internal/abi.NoEscape", "internal/bytealg.MakeNoZero", "internal/bytealg.IndexByteString", "internal/bytealg.IndexString"], named := ["conduit/date.weekdays", "internal/bytealg.MaxLen", "conduit/date.months", "conduit/date.monthLengths", "unicode/utf8.first", "unicode/utf8.acceptRanges"], apart := false, laid := [("unicode/utf8.acceptRanges", laid_unicode_utf8_acceptRanges), ("conduit/date.weekdays", laid_conduit_date_weekdays), ("conduit/date.months", laid_conduit_date_months), ("conduit/date.monthLengths", laid_conduit_date_monthLengths), ("unicode/utf8.first", laid_unicode_utf8_first)], narrowed := true }
def ValidKnownUptoSaid : Prop := validKnownUptoRow.holds Tryd.pinned (OpenSpec.upto validKnownSpec)

end Rows
end Go.Proofs.YtikokjclhpgocaaDoor
