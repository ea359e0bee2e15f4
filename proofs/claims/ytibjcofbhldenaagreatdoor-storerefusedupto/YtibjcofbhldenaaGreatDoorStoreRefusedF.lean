/- What the law's function reaches, as the row says it: four facts by themselves. -/
import Derived.Test.YtibjcofbhldenaaGreatDoorCards
import Derived.Test.YtibjcofbhldenaaGreatDoorTie
import Derived.OpenShut
import Derived.ShutString
import Derived.ChangeOld
import Derived.Below
import Derived.SizedLaws
import Derived.Deep.DeepHandedRow
import Derived.Lib.LaidTab
import Derived.JoinedCond
namespace Go.Proofs.YtibjcofbhldenaaGreatDoor.storeRefused
open Go.ChangeShapes Go.WideShapes Go.ChangeAt Go.RowKit
open Go.ChangeMaps (open_string shut_string)
theorem reach1 : (Rows.storeRefusedUptoRow.inPlace == Tryz.pinned.checked.prog.inPlace 6) = true := by kernel_rfl
theorem reach2 : (Rows.storeRefusedUptoRow.unfollowed == Tryz.pinned.checked.prog.unfollowed 6) = true := by kernel_rfl
theorem reach3 : (Rows.storeRefusedUptoRow.recurses == Tryz.pinned.checked.prog.recurses 6) = true := by kernel_rfl
theorem reach4 : (Rows.storeRefusedUptoRow.named == Tryz.pinned.checked.prog.varsNamed 6) = true := by kernel_rfl
end Go.Proofs.YtibjcofbhldenaaGreatDoor.storeRefused
