/- The contracts of the document's alnum. -/
import Derived.Test.YtaijnphodjdedaaDoorUaL
import Derived.Test.YtaijnphodjdedaaDoorRows
namespace Go.Proofs.YtaijnphodjdedaaDoor
open Go.RowKit
set_option maxHeartbeats 1000000 in
theorem alnumRef (c : Int) (h0 : 0 ≤ c) (h1 : c ≤ 255) (w : World) :
    Calls Tryd.prog 34 #[.int .u8 c] w fun e w' => e = .returned (.bool (alnumI c)) ∧ w' = w := by
  rcases regions7 c with h | ⟨h, h'⟩ | ⟨h, h'⟩ | ⟨h, h'⟩ | ⟨h, h'⟩ | ⟨h, h'⟩ | h
  all_goals
    first | have q1 : decide (c ≤ 57) = true := decide_eq_true (by omega) | have q1 : decide (c ≤ 57) = false := decide_eq_false (by omega)
    first | have q2 : decide (c ≤ 90) = true := decide_eq_true (by omega) | have q2 : decide (c ≤ 90) = false := decide_eq_false (by omega)
    first | have q3 : decide (c ≤ 122) = true := decide_eq_true (by omega) | have q3 : decide (c ≤ 122) = false := decide_eq_false (by omega)
    go_enter Tryd.func34, Tryd.ntmps34
    go_wp2_with fail
    go_ret
    first | (rw [show alnumI c = true from decide_eq_true (by omega)]; exact ⟨rfl, rfl⟩) | (rw [show alnumI c = false from decide_eq_false (by omega)]; exact ⟨rfl, rfl⟩)
end Go.Proofs.YtaijnphodjdedaaDoor
