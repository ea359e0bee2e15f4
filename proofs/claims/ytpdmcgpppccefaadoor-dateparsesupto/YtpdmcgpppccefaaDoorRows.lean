/-
  NARROWER THAN 'FOR EVERY INPUT', by the rows' own cells (each row's printed sentence says how): DateShows: laid · DateParses: laid · DateDays: laid · DateRound: laid · DateForms: laid · DateNext: laid.
  DERIVED. THE GIVEN ROWS OF THIS SEAT. 6 by the template 'for every input the law returns true; each argument reads behind the call as it read before'; 0 by the template 'total and deterministic' (their statements: YtpdmcgpppccefaaDoorTotals.lean).
  GIVEN WITH THE SEED: the statements are not yours to turn. If you find one false, say at which input.
  Laid BY PROGRAM, IN A SANDBOX (cutbox-rows.mjs): the forced cells as the released guide's own fill.sh prints them over the translation 903293c72ca42362… (all of the seat's roots in one cut). By AI agents, Wed Nov 11 2026. No macro, syntax, notation, axiom, sorry.
-/
import Derived.Test.YtpdmcgpppccefaaDoorChecked
import GoSem.Claim
import GoSem.ClaimJoined
import GoSem.ClaimMapViews
import Derived.JoinedTies
import Derived.KernelRfl
namespace Go.Proofs.YtpdmcgpppccefaaDoor
/- THE CELL 'sum', in the pinned program and in every row, IS THE sha256 OF THE DUMP (.gsa) THAT YtpdmcgpppccefaaDoorProg.lean LOADS. Nothing in Lean hashes anything: it is a label: what it is worth is what the hold of that sum in a sandbox is worth. -/
noncomputable def Tryd.pinned : Pinned := { name := "ytpdmcgpppccefaadoor", sum := "903293c72ca42362ae20a685124d5de676464fee2c5e04327c81a51de1d743f3", checked := Tryd.checked }
namespace Rows
def none {H : Type} : Left H := { results := [], args := [] }

/- WHAT THE LISTED PACKAGE-LEVEL VARIABLES READ AS WHEN THE CALL BEGINS. Each datum BY PROGRAM (the guide's laid-datum.mjs) off the statement by which the dump's own 'gosem.cut.vars' lays the variable. In a bare row this is a premise. The card (YtpdmcgpppccefaaDoorCards.lean) ties it to the program's text. -/
def laid_math_bits_deBruijn32tab {H : Type} : DataW H := .agg [.lit (.int .u8 0), .lit (.int .u8 1), .lit (.int .u8 28), .lit (.int .u8 2), .lit (.int .u8 29), .lit (.int .u8 14), .lit (.int .u8 24), .lit (.int .u8 3), .lit (.int .u8 30), .lit (.int .u8 22), .lit (.int .u8 20), .lit (.int .u8 15), .lit (.int .u8 25), .lit (.int .u8 17), .lit (.int .u8 4), .lit (.int .u8 8), .lit (.int .u8 31), .lit (.int .u8 27), .lit (.int .u8 13), .lit (.int .u8 23), .lit (.int .u8 21), .lit (.int .u8 19), .lit (.int .u8 16), .lit (.int .u8 7), .lit (.int .u8 26), .lit (.int .u8 12), .lit (.int .u8 18), .lit (.int .u8 6), .lit (.int .u8 11), .lit (.int .u8 5), .lit (.int .u8 10), .lit (.int .u8 9)]
def laid_math_bits_deBruijn64tab {H : Type} : DataW H := .agg [.lit (.int .u8 0), .lit (.int .u8 1), .lit (.int .u8 56), .lit (.int .u8 2), .lit (.int .u8 57), .lit (.int .u8 49), .lit (.int .u8 28), .lit (.int .u8 3), .lit (.int .u8 61), .lit (.int .u8 58), .lit (.int .u8 42), .lit (.int .u8 50), .lit (.int .u8 38), .lit (.int .u8 29), .lit (.int .u8 17), .lit (.int .u8 4), .lit (.int .u8 62), .lit (.int .u8 47), .lit (.int .u8 59), .lit (.int .u8 36), .lit (.int .u8 45), .lit (.int .u8 43), .lit (.int .u8 51), .lit (.int .u8 22), .lit (.int .u8 53), .lit (.int .u8 39), .lit (.int .u8 33), .lit (.int .u8 30), .lit (.int .u8 24), .lit (.int .u8 18), .lit (.int .u8 12), .lit (.int .u8 5), .lit (.int .u8 63), .lit (.int .u8 55), .lit (.int .u8 48), .lit (.int .u8 27), .lit (.int .u8 60), .lit (.int .u8 41), .lit (.int .u8 37), .lit (.int .u8 16), .lit (.int .u8 46), .lit (.int .u8 35), .lit (.int .u8 44), .lit (.int .u8 21), .lit (.int .u8 52), .lit (.int .u8 32), .lit (.int .u8 23), .lit (.int .u8 11), .lit (.int .u8 54), .lit (.int .u8 26), .lit (.int .u8 40), .lit (.int .u8 15), .lit (.int .u8 34), .lit (.int .u8 20), .lit (.int .u8 31), .lit (.int .u8 10), .lit (.int .u8 25), .lit (.int .u8 14), .lit (.int .u8 19), .lit (.int .u8 9), .lit (.int .u8 13), .lit (.int .u8 8), .lit (.int .u8 7), .lit (.int .u8 6)]
def laid_internal_strconv_uint64pow10 {H : Type} : DataW H := .agg [.lit (.int .u64 1), .lit (.int .u64 10), .lit (.int .u64 100), .lit (.int .u64 1000), .lit (.int .u64 10000), .lit (.int .u64 100000), .lit (.int .u64 1000000), .lit (.int .u64 10000000), .lit (.int .u64 100000000), .lit (.int .u64 1000000000), .lit (.int .u64 10000000000), .lit (.int .u64 100000000000), .lit (.int .u64 1000000000000), .lit (.int .u64 10000000000000), .lit (.int .u64 100000000000000), .lit (.int .u64 1000000000000000), .lit (.int .u64 10000000000000000), .lit (.int .u64 100000000000000000), .lit (.int .u64 1000000000000000000), .lit (.int .u64 10000000000000000000)]
def laid_conduit_date_weekdays {H : Type} : DataW H := .agg [.lit (.string [84, 104, 117, 114, 115, 100, 97, 121]), .lit (.string [70, 114, 105, 100, 97, 121]), .lit (.string [83, 97, 116, 117, 114, 100, 97, 121]), .lit (.string [83, 117, 110, 100, 97, 121]), .lit (.string [77, 111, 110, 100, 97, 121]), .lit (.string [84, 117, 101, 115, 100, 97, 121]), .lit (.string [87, 101, 100, 110, 101, 115, 100, 97, 121])]
def laid_conduit_date_months {H : Type} : DataW H := .agg [.lit (.string [74, 97, 110]), .lit (.string [70, 101, 98]), .lit (.string [77, 97, 114]), .lit (.string [65, 112, 114]), .lit (.string [77, 97, 121]), .lit (.string [74, 117, 110]), .lit (.string [74, 117, 108]), .lit (.string [65, 117, 103]), .lit (.string [83, 101, 112]), .lit (.string [79, 99, 116]), .lit (.string [78, 111, 118]), .lit (.string [68, 101, 99])]
def laid_conduit_date_monthLengths {H : Type} : DataW H := .agg [.lit (.int .i64 31), .lit (.int .i64 28), .lit (.int .i64 31), .lit (.int .i64 30), .lit (.int .i64 31), .lit (.int .i64 30), .lit (.int .i64 31), .lit (.int .i64 31), .lit (.int .i64 30), .lit (.int .i64 31), .lit (.int .i64 30), .lit (.int .i64 31)]

/-- 'conduitlaw02.DateShows': WHATEVER THE INPUT: true; the input reads as it did. -/
def dateShowsSpec : ChangeSpec := { name := "dateShows", fn := fun _ => fun
  | [d] => { results := [.lit (.bool true)], args := [d] }
  | _ => none }
def dateShowsRow : OpenClaim := { program := "ytpdmcgpppccefaadoor", sum := "903293c72ca42362ae20a685124d5de676464fee2c5e04327c81a51de1d743f3", func := "conduit/conduitlaw02.DateShows", spec := "dateShows", named := ["conduit/date.weekdays", "conduit/date.months", "conduit/date.monthLengths", "internal/strconv.uint64pow10", "math/bits.deBruijn32tab", "math/bits.deBruijn64tab"], apart := false, laid := [("math/bits.deBruijn32tab", laid_math_bits_deBruijn32tab), ("math/bits.deBruijn64tab", laid_math_bits_deBruijn64tab), ("internal/strconv.uint64pow10", laid_internal_strconv_uint64pow10), ("conduit/date.weekdays", laid_conduit_date_weekdays), ("conduit/date.months", laid_conduit_date_months), ("conduit/date.monthLengths", laid_conduit_date_monthLengths)] }
def DateShowsSaid : Prop := dateShowsRow.holds Tryd.pinned (OpenSpec.ofChange dateShowsSpec)

/-- ITS FALSE NEIGHBOUR: 'it returns false'. Refute it at one input. -/
def dateShowsWrong : ChangeSpec := { name := "dateShows", fn := fun _ => fun
  | [d] => { results := [.lit (.bool false)], args := [d] }
  | _ => none }
def DateShowsWrongFalsely : Prop := dateShowsRow.holds Tryd.pinned (OpenSpec.ofChange dateShowsWrong)

/-- 'conduitlaw02.DateParses': WHATEVER THE INPUT: true; the input reads as it did. -/
def dateParsesSpec : ChangeSpec := { name := "dateParses", fn := fun _ => fun
  | [d] => { results := [.lit (.bool true)], args := [d] }
  | _ => none }
def dateParsesRow : OpenClaim := { program := "ytpdmcgpppccefaadoor", sum := "903293c72ca42362ae20a685124d5de676464fee2c5e04327c81a51de1d743f3", func := "conduit/conduitlaw02.DateParses", spec := "dateParses", inPlace := ["internal/bytealg.IndexByteString", "internal/bytealg.IndexString"], named := ["conduit/date.weekdays", "conduit/date.months", "conduit/date.monthLengths", "internal/strconv.uint64pow10", "math/bits.deBruijn32tab", "math/bits.deBruijn64tab", "internal/bytealg.MaxLen"], apart := false, laid := [("math/bits.deBruijn32tab", laid_math_bits_deBruijn32tab), ("math/bits.deBruijn64tab", laid_math_bits_deBruijn64tab), ("internal/strconv.uint64pow10", laid_internal_strconv_uint64pow10), ("conduit/date.weekdays", laid_conduit_date_weekdays), ("conduit/date.months", laid_conduit_date_months), ("conduit/date.monthLengths", laid_conduit_date_monthLengths)] }
def DateParsesSaid : Prop := dateParsesRow.holds Tryd.pinned (OpenSpec.ofChange dateParsesSpec)

/-- ITS FALSE NEIGHBOUR: 'it returns false'. Refute it at one input. -/
def dateParsesWrong : ChangeSpec := { name := "dateParses", fn := fun _ => fun
  | [d] => { results := [.lit (.bool false)], args := [d] }
  | _ => none }
def DateParsesWrongFalsely : Prop := dateParsesRow.holds Tryd.pinned (OpenSpec.ofChange dateParsesWrong)

/-- 'conduitlaw02.DateDays': WHATEVER THE INPUT: true; the input reads as it did. -/
def dateDaysSpec : ChangeSpec := { name := "dateDays", fn := fun _ => fun
  | [d1, d2, d3] => { results := [.lit (.bool true)], args := [d1, d2, d3] }
  | _ => none }
def dateDaysRow : OpenClaim := { program := "ytpdmcgpppccefaadoor", sum := "903293c72ca42362ae20a685124d5de676464fee2c5e04327c81a51de1d743f3", func := "conduit/conduitlaw02.DateDays", spec := "dateDays", named := ["conduit/date.monthLengths"], apart := false, laid := [("conduit/date.monthLengths", laid_conduit_date_monthLengths)] }
def DateDaysSaid : Prop := dateDaysRow.holds Tryd.pinned (OpenSpec.ofChange dateDaysSpec)

/-- ITS FALSE NEIGHBOUR: 'it returns false'. Refute it at one input. -/
def dateDaysWrong : ChangeSpec := { name := "dateDays", fn := fun _ => fun
  | [d1, d2, d3] => { results := [.lit (.bool false)], args := [d1, d2, d3] }
  | _ => none }
def DateDaysWrongFalsely : Prop := dateDaysRow.holds Tryd.pinned (OpenSpec.ofChange dateDaysWrong)

/-- 'conduitlaw02.DateRound': WHATEVER THE INPUT: true; the input reads as it did. -/
def dateRoundSpec : ChangeSpec := { name := "dateRound", fn := fun _ => fun
  | [d] => { results := [.lit (.bool true)], args := [d] }
  | _ => none }
def dateRoundRow : OpenClaim := { program := "ytpdmcgpppccefaadoor", sum := "903293c72ca42362ae20a685124d5de676464fee2c5e04327c81a51de1d743f3", func := "conduit/conduitlaw02.DateRound", spec := "dateRound", inPlace := ["internal/bytealg.IndexByteString", "internal/bytealg.IndexString"], named := ["conduit/date.weekdays", "conduit/date.months", "conduit/date.monthLengths", "internal/strconv.uint64pow10", "math/bits.deBruijn32tab", "math/bits.deBruijn64tab", "internal/bytealg.MaxLen"], apart := false, laid := [("math/bits.deBruijn32tab", laid_math_bits_deBruijn32tab), ("math/bits.deBruijn64tab", laid_math_bits_deBruijn64tab), ("internal/strconv.uint64pow10", laid_internal_strconv_uint64pow10), ("conduit/date.weekdays", laid_conduit_date_weekdays), ("conduit/date.months", laid_conduit_date_months), ("conduit/date.monthLengths", laid_conduit_date_monthLengths)] }
def DateRoundSaid : Prop := dateRoundRow.holds Tryd.pinned (OpenSpec.ofChange dateRoundSpec)

/-- ITS FALSE NEIGHBOUR: 'it returns false'. Refute it at one input. -/
def dateRoundWrong : ChangeSpec := { name := "dateRound", fn := fun _ => fun
  | [d] => { results := [.lit (.bool false)], args := [d] }
  | _ => none }
def DateRoundWrongFalsely : Prop := dateRoundRow.holds Tryd.pinned (OpenSpec.ofChange dateRoundWrong)

/-- 'conduitlaw02.DateForms': WHATEVER THE INPUT: true; the input reads as it did. -/
def dateFormsSpec : ChangeSpec := { name := "dateForms", fn := fun _ => fun
  | [d] => { results := [.lit (.bool true)], args := [d] }
  | _ => none }
def dateFormsRow : OpenClaim := { program := "ytpdmcgpppccefaadoor", sum := "903293c72ca42362ae20a685124d5de676464fee2c5e04327c81a51de1d743f3", func := "conduit/conduitlaw02.DateForms", spec := "dateForms", inPlace := ["internal/bytealg.IndexByteString", "internal/bytealg.IndexString"], named := ["conduit/date.weekdays", "conduit/date.months", "conduit/date.monthLengths", "internal/strconv.uint64pow10", "math/bits.deBruijn32tab", "math/bits.deBruijn64tab", "internal/bytealg.MaxLen"], apart := false, laid := [("math/bits.deBruijn32tab", laid_math_bits_deBruijn32tab), ("math/bits.deBruijn64tab", laid_math_bits_deBruijn64tab), ("internal/strconv.uint64pow10", laid_internal_strconv_uint64pow10), ("conduit/date.weekdays", laid_conduit_date_weekdays), ("conduit/date.months", laid_conduit_date_months), ("conduit/date.monthLengths", laid_conduit_date_monthLengths)] }
def DateFormsSaid : Prop := dateFormsRow.holds Tryd.pinned (OpenSpec.ofChange dateFormsSpec)

/-- ITS FALSE NEIGHBOUR: 'it returns false'. Refute it at one input. -/
def dateFormsWrong : ChangeSpec := { name := "dateForms", fn := fun _ => fun
  | [d] => { results := [.lit (.bool false)], args := [d] }
  | _ => none }
def DateFormsWrongFalsely : Prop := dateFormsRow.holds Tryd.pinned (OpenSpec.ofChange dateFormsWrong)

/-- 'conduitlaw02.DateNext': WHATEVER THE INPUT: true; the input reads as it did. -/
def dateNextSpec : ChangeSpec := { name := "dateNext", fn := fun _ => fun
  | [d] => { results := [.lit (.bool true)], args := [d] }
  | _ => none }
def dateNextRow : OpenClaim := { program := "ytpdmcgpppccefaadoor", sum := "903293c72ca42362ae20a685124d5de676464fee2c5e04327c81a51de1d743f3", func := "conduit/conduitlaw02.DateNext", spec := "dateNext", named := ["conduit/date.weekdays", "conduit/date.months", "conduit/date.monthLengths", "internal/strconv.uint64pow10", "math/bits.deBruijn32tab", "math/bits.deBruijn64tab"], apart := false, laid := [("math/bits.deBruijn32tab", laid_math_bits_deBruijn32tab), ("math/bits.deBruijn64tab", laid_math_bits_deBruijn64tab), ("internal/strconv.uint64pow10", laid_internal_strconv_uint64pow10), ("conduit/date.weekdays", laid_conduit_date_weekdays), ("conduit/date.months", laid_conduit_date_months), ("conduit/date.monthLengths", laid_conduit_date_monthLengths)] }
def DateNextSaid : Prop := dateNextRow.holds Tryd.pinned (OpenSpec.ofChange dateNextSpec)

/-- ITS FALSE NEIGHBOUR: 'it returns false'. Refute it at one input. -/
def dateNextWrong : ChangeSpec := { name := "dateNext", fn := fun _ => fun
  | [d] => { results := [.lit (.bool false)], args := [d] }
  | _ => none }
def DateNextWrongFalsely : Prop := dateNextRow.holds Tryd.pinned (OpenSpec.ofChange dateNextWrong)

/- THE SECOND FORM. 'bulk': how many values and letters a reading holds, each counted each time it is reached (what is shared counts as often as it is met; a slice's spare places count too). A statement '..UptoSaid' is the law's where the arguments, and the package variables that the reading takes, are together of bulk at most 1048576: NARROWER than '..Said'. Prove '..Said' where nothing that the law and all that it calls make is longer than what came in: it says more and counts as full. Else prove '..UptoSaid'. A law counts once. -/
mutual
def uptoBulk {H : Type} : DataW H → Nat
  | .lit (.string bytes) => bytes.length + 1
  | .lit _ => 1
  | .nil => 1
  | .ptr d => uptoBulk d + 1
  | .slice elems spare => uptoBulkAll elems + uptoBulkAll spare + 1
  | .agg parts => uptoBulkAll parts + 1
  | .iface _ d => uptoBulk d + 1
  | .map entries => uptoBulkEntries entries + 1
  | .held _ => 1
def uptoBulkAll {H : Type} : List (DataW H) → Nat
  | [] => 0
  | d :: r => uptoBulk d + uptoBulkAll r
def uptoBulkEntries {H : Type} : List (Lit × DataW H) → Nat
  | [] => 0
  | x :: r => uptoBulkEntry x + uptoBulkEntries r
def uptoBulkEntry {H : Type} : Lit × DataW H → Nat
  | (.string bytes, d) => bytes.length + uptoBulk d + 1
  | (_, d) => uptoBulk d + 1
 end
def uptoSmall : (H : Type) → List (DataW H) → Bool := fun _ ds => decide (uptoBulkAll ds ≤ 1048576)
def OpenSpec.upto (s : _root_.Go.ChangeSpec) : _root_.Go.OpenSpec := { _root_.Go.OpenSpec.ofChange s with cond := some uptoSmall }

/-- 'conduitlaw02.DateShows', WHERE WHAT IT READS IS OF BULK AT MOST 1048576: true; the input reads as it did. -/
def dateShowsUptoRow : OpenClaim := { program := "ytpdmcgpppccefaadoor", sum := "903293c72ca42362ae20a685124d5de676464fee2c5e04327c81a51de1d743f3", func := "conduit/conduitlaw02.DateShows", spec := "dateShows", named := ["conduit/date.weekdays", "conduit/date.months", "conduit/date.monthLengths", "internal/strconv.uint64pow10", "math/bits.deBruijn32tab", "math/bits.deBruijn64tab"], apart := false, laid := [("math/bits.deBruijn32tab", laid_math_bits_deBruijn32tab), ("math/bits.deBruijn64tab", laid_math_bits_deBruijn64tab), ("internal/strconv.uint64pow10", laid_internal_strconv_uint64pow10), ("conduit/date.weekdays", laid_conduit_date_weekdays), ("conduit/date.months", laid_conduit_date_months), ("conduit/date.monthLengths", laid_conduit_date_monthLengths)], narrowed := true }
def DateShowsUptoSaid : Prop := dateShowsUptoRow.holds Tryd.pinned (OpenSpec.upto dateShowsSpec)

/-- 'conduitlaw02.DateParses', WHERE WHAT IT READS IS OF BULK AT MOST 1048576: true; the input reads as it did. -/
def dateParsesUptoRow : OpenClaim := { program := "ytpdmcgpppccefaadoor", sum := "903293c72ca42362ae20a685124d5de676464fee2c5e04327c81a51de1d743f3", func := "conduit/conduitlaw02.DateParses", spec := "dateParses", inPlace := ["internal/bytealg.IndexByteString", "internal/bytealg.IndexString"], named := ["conduit/date.weekdays", "conduit/date.months", "conduit/date.monthLengths", "internal/strconv.uint64pow10", "math/bits.deBruijn32tab", "math/bits.deBruijn64tab", "internal/bytealg.MaxLen"], apart := false, laid := [("math/bits.deBruijn32tab", laid_math_bits_deBruijn32tab), ("math/bits.deBruijn64tab", laid_math_bits_deBruijn64tab), ("internal/strconv.uint64pow10", laid_internal_strconv_uint64pow10), ("conduit/date.weekdays", laid_conduit_date_weekdays), ("conduit/date.months", laid_conduit_date_months), ("conduit/date.monthLengths", laid_conduit_date_monthLengths)], narrowed := true }
def DateParsesUptoSaid : Prop := dateParsesUptoRow.holds Tryd.pinned (OpenSpec.upto dateParsesSpec)

/-- 'conduitlaw02.DateDays', WHERE WHAT IT READS IS OF BULK AT MOST 1048576: true; the input reads as it did. -/
def dateDaysUptoRow : OpenClaim := { program := "ytpdmcgpppccefaadoor", sum := "903293c72ca42362ae20a685124d5de676464fee2c5e04327c81a51de1d743f3", func := "conduit/conduitlaw02.DateDays", spec := "dateDays", named := ["conduit/date.monthLengths"], apart := false, laid := [("conduit/date.monthLengths", laid_conduit_date_monthLengths)], narrowed := true }
def DateDaysUptoSaid : Prop := dateDaysUptoRow.holds Tryd.pinned (OpenSpec.upto dateDaysSpec)

/-- 'conduitlaw02.DateRound', WHERE WHAT IT READS IS OF BULK AT MOST 1048576: true; the input reads as it did. -/
def dateRoundUptoRow : OpenClaim := { program := "ytpdmcgpppccefaadoor", sum := "903293c72ca42362ae20a685124d5de676464fee2c5e04327c81a51de1d743f3", func := "conduit/conduitlaw02.DateRound", spec := "dateRound", inPlace := ["internal/bytealg.IndexByteString", "internal/bytealg.IndexString"], named := ["conduit/date.weekdays", "conduit/date.months", "conduit/date.monthLengths", "internal/strconv.uint64pow10", "math/bits.deBruijn32tab", "math/bits.deBruijn64tab", "internal/bytealg.MaxLen"], apart := false, laid := [("math/bits.deBruijn32tab", laid_math_bits_deBruijn32tab), ("math/bits.deBruijn64tab", laid_math_bits_deBruijn64tab), ("internal/strconv.uint64pow10", laid_internal_strconv_uint64pow10), ("conduit/date.weekdays", laid_conduit_date_weekdays), ("conduit/date.months", laid_conduit_date_months), ("conduit/date.monthLengths", laid_conduit_date_monthLengths)], narrowed := true }
def DateRoundUptoSaid : Prop := dateRoundUptoRow.holds Tryd.pinned (OpenSpec.upto dateRoundSpec)

/-- 'conduitlaw02.DateForms', WHERE WHAT IT READS IS OF BULK AT MOST 1048576: true; the input reads as it did. -/
def dateFormsUptoRow : OpenClaim := { program := "ytpdmcgpppccefaadoor", sum := "903293c72ca42362ae20a685124d5de676464fee2c5e04327c81a51de1d743f3", func := "conduit/conduitlaw02.DateForms", spec := "dateForms", inPlace := ["internal/bytealg.IndexByteString", "internal/bytealg.IndexString"], named := ["conduit/date.weekdays", "conduit/date.months", "conduit/date.monthLengths", "internal/strconv.uint64pow10", "math/bits.deBruijn32tab", "math/bits.deBruijn64tab", "internal/bytealg.MaxLen"], apart := false, laid := [("math/bits.deBruijn32tab", laid_math_bits_deBruijn32tab), ("math/bits.deBruijn64tab", laid_math_bits_deBruijn64tab), ("internal/strconv.uint64pow10", laid_internal_strconv_uint64pow10), ("conduit/date.weekdays", laid_conduit_date_weekdays), ("conduit/date.months", laid_conduit_date_months), ("conduit/date.monthLengths", laid_conduit_date_monthLengths)], narrowed := true }
def DateFormsUptoSaid : Prop := dateFormsUptoRow.holds Tryd.pinned (OpenSpec.upto dateFormsSpec)

/-- 'conduitlaw02.DateNext', WHERE WHAT IT READS IS OF BULK AT MOST 1048576: true; the input reads as it did. -/
def dateNextUptoRow : OpenClaim := { program := "ytpdmcgpppccefaadoor", sum := "903293c72ca42362ae20a685124d5de676464fee2c5e04327c81a51de1d743f3", func := "conduit/conduitlaw02.DateNext", spec := "dateNext", named := ["conduit/date.weekdays", "conduit/date.months", "conduit/date.monthLengths", "internal/strconv.uint64pow10", "math/bits.deBruijn32tab", "math/bits.deBruijn64tab"], apart := false, laid := [("math/bits.deBruijn32tab", laid_math_bits_deBruijn32tab), ("math/bits.deBruijn64tab", laid_math_bits_deBruijn64tab), ("internal/strconv.uint64pow10", laid_internal_strconv_uint64pow10), ("conduit/date.weekdays", laid_conduit_date_weekdays), ("conduit/date.months", laid_conduit_date_months), ("conduit/date.monthLengths", laid_conduit_date_monthLengths)], narrowed := true }
def DateNextUptoSaid : Prop := dateNextUptoRow.holds Tryd.pinned (OpenSpec.upto dateNextSpec)

end Rows
end Go.Proofs.YtpdmcgpppccefaaDoor
