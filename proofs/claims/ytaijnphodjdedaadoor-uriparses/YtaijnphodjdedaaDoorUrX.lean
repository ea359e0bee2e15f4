/- The contract of the document's hex. -/
import Derived.Test.YtaijnphodjdedaaDoorUaA
namespace Go.Proofs.YtaijnphodjdedaaDoor
open Go.RowKit
set_option maxHeartbeats 1000000 in
theorem hexRef (c : Int) (h0 : 0 ≤ c) (h1 : c ≤ 255) (w : World) :
    Calls Tryd.prog 35 #[.int .u8 c] w fun e w' => e = .returned (.int .i64 (hexI c)) ∧ w' = w := by
  rcases hexRegions c with ⟨h, H⟩ | ⟨h, h', H⟩ | ⟨h, h', H⟩ | ⟨h, h', H⟩ | ⟨h, h', H⟩ | ⟨h, h', H⟩ | ⟨h, H⟩
  all_goals
    replace H := hide H
    first | have q1 : decide (c ≤ 57) = true := decide_eq_true (by omega) | have q1 : decide (c ≤ 57) = false := decide_eq_false (by omega)
    first | have q2 : decide (c ≤ 70) = true := decide_eq_true (by omega) | have q2 : decide (c ≤ 70) = false := decide_eq_false (by omega)
    first | have q3 : decide (c ≤ 102) = true := decide_eq_true (by omega) | have q3 : decide (c ≤ 102) = false := decide_eq_false (by omega)
    go_enter Tryd.func35, Tryd.ntmps35
    go_wp2_with fail
    go_ret
    rw [H.out]
    first | exact ⟨rfl, rfl⟩ | exact ⟨congrArg (fun x => Ending.returned (Value.int IntKind.i64 x)) (by omega), rfl⟩
end Go.Proofs.YtaijnphodjdedaaDoor
