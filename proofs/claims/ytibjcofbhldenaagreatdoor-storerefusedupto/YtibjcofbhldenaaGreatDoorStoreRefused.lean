/- StoreRefused answers true, and leaves its arguments as they were, whatever room, number of slots, script of steps and entry come in -/
import Derived.Test.YtibjcofbhldenaaGreatDoorStoreRefusedA
import Derived.Test.YtibjcofbhldenaaGreatDoorStoreRefusedF
import Derived.Test.YtibjcofbhldenaaGreatDoorZ48
import Derived.Test.YtibjcofbhldenaaGreatDoorZ45
import Derived.Test.YtibjcofbhldenaaGreatDoorZ17
import Derived.Test.YtibjcofbhldenaaGreatDoorZ20
import Derived.Test.YtibjcofbhldenaaGreatDoorCards
import Derived.Test.YtibjcofbhldenaaGreatDoorTie
import Derived.OpenShut
import Derived.ShutString
import Derived.ChangeOld
import Derived.Below
import Derived.SizedLaws
import Derived.Deep.DeepHandedRow
import Derived.Lib.LaidTab
namespace Go.Proofs.YtibjcofbhldenaaGreatDoor.storeRefused
open Go.ChangeShapes Go.WideShapes Go.ChangeAt Go.RowKit
open Go.ChangeMaps (open_string shut_string)
theorem closedF : joinedFacts Tryz.pinned.checked.prog 6 Tryz.f6 (Rows.OpenSpec.upto Rows.storeRefusedSpec).bare Rows.storeRefusedUptoRow = true := by
  unfold joinedFacts
  rw [reach1, reach2, reach3, reach4]
  kernel_rfl
theorem said : Rows.StoreRefusedUptoSaid :=
  OpenClaim.holds_of_cond 6 Tryz.f6 rfl rfl rfl rfl rfl rfl rfl ⟨rfl, rfl, rfl, rfl, rfl⟩ rfl rfl rfl rfl rfl (by kernel_rfl) Tryz.func6 closedF
    (of_decide_eq_true (by kernel_rfl)) (by unfold Func.isWrapper; first | (rw [if_pos (by decide +kernel)]; kernel_rfl) | (rw [if_neg (by decide +kernel)]; exact ⟨rfl, rfl⟩))
    (fun os started H enc _ F => by rw [OpenClaim.pre_eq_preRow]; exact lifted os started H enc F)

theorem plain (f : FuncId) (fn : Func) (hf : Tryz.pinned.checked.prog.funcNamed Tryz.f6.name = some f) (hfn : Tryz.pinned.checked.prog.funcs[f]? = some fn) :
    true = Tryz.pinned.checked.prog.looks [] ∧ ∀ (j : Nat) t, fn.params[j]? = some t → Tryz.pinned.checked.prog.wantsStandIn t = false := by
  obtain rfl : f = 6 := Option.some.inj ((show Tryz.prog.funcNamed Tryz.f6.name = some 6 by kernel_rfl).symm.trans hf) |>.symm
  obtain rfl : fn = Tryz.f6 := (Option.some.inj (Tryz.func6.symm.trans hfn)).symm
  refine ⟨by kernel_rfl, fun j t ht => ?_⟩
  rw [Tryz.params6] at ht
  rcases (show t = 3 ∨ t = 26 ∨ t = 59 by simpa using Array.mem_of_getElem? ht) with rfl | rfl | rfl
  · exact (show Tryz.prog.wantsStandIn 3 = false by kernel_rfl)
  · exact (show Tryz.prog.wantsStandIn 26 = false by kernel_rfl)
  · exact (show Tryz.prog.wantsStandIn 59 = false by kernel_rfl)
end Go.Proofs.YtibjcofbhldenaaGreatDoor.storeRefused
namespace Go.Proofs.YtibjcofbhldenaaGreatDoor
theorem storeRefused_holds : Rows.StoreRefusedUptoCardSaid :=
  Claim7.holds_tied_plain_at .later [] _ _ _ _ storeRefused.said (fun _ h => by cases h) (by kernel_rfl) (fun _ h => by cases h) storeRefusedUpto_row_tie rfl ⟨rfl, rfl⟩ (by kernel_rfl) rfl storeRefused.plain (by kernel_rfl)
#print axioms storeRefused_holds
end Go.Proofs.YtibjcofbhldenaaGreatDoor
