/-
  DERIVED. GIVEN WITH THE SEED: THE PROGRAM's TIES (one call each: nine closed facts by the kernel) AND EACH ROW's TIE, after the 31st guide's Derived/Test/Toyas{Tie, Card}.lean. No idea stands in it: it is a product of the set-up. Laid BY PROGRAM, IN A SANDBOX (cutbox-door.mjs). By AI agents, Wed Nov 11 2026. No macro, syntax, notation, axiom, sorry.
-/
import Derived.Test.YtikokjclhpgocabDoorRows
import Derived.LaidByTextLater
import Derived.SevenTiedAt
import Derived.LaidSub
import Derived.LaidOnce
namespace Go.Proofs.YtikokjclhpgocabDoor
open Go
set_option maxRecDepth 100000
theorem seatTie1 : Tryd.prog.laidByTextLater [("conduit/date.weekdays", Rows.laid_conduit_date_weekdays), ("conduit/date.months", Rows.laid_conduit_date_months), ("conduit/date.monthLengths", Rows.laid_conduit_date_monthLengths)] [.data, .data, .data] true :=
  Program.laidByTextLater_by_one 24 8 13 (by kernel_rfl) (by kernel_rfl) (by kernel_rfl) (by kernel_rfl) (by kernel_rfl) (by kernel_rfl) (fun _ _ => by kernel_rfl)
theorem noOwnUnsafe : Tryd.pinned.checked.prog.headLifts.contains "ownunsafe" = false := by kernel_rfl
theorem tie : Tryd.prog.laidByTextLater [("conduit/date.weekdays", Rows.laid_conduit_date_weekdays), ("conduit/date.months", Rows.laid_conduit_date_months), ("conduit/date.monthLengths", Rows.laid_conduit_date_monthLengths)] [.data, .data, .data] true :=
  Program.laidByTextLater.sub seatTie1 ["conduit/date.weekdays", "conduit/date.months", "conduit/date.monthLengths"] (by kernel_rfl) (by kernel_rfl)
theorem validMemory_row_tie : Rows.validMemoryRow.laidByTextAt .later Tryd.pinned [.data, .data, .data] true :=
  OpenClaim.laidByTextAt_later rfl rfl tie noOwnUnsafe
theorem validMemoryUpto_row_tie : Rows.validMemoryUptoRow.laidByTextAt .later Tryd.pinned [.data, .data, .data] true :=
  OpenClaim.laidByTextAt_later rfl rfl tie noOwnUnsafe
end Go.Proofs.YtikokjclhpgocabDoor
