/- The contracts of letterOrDigit. -/
import Derived.Test.YtaijnphodjdedaaDoorUrP
import Derived.Test.YtaijnphodjdedaaDoorRows
namespace Go.Proofs.YtaijnphodjdedaaDoor
open Go.RowKit
theorem regions7 (c : Int) : c < 48 ∨ (48 ≤ c ∧ c ≤ 57) ∨ (57 < c ∧ c < 65) ∨ (65 ≤ c ∧ c ≤ 90) ∨ (90 < c ∧ c < 97) ∨ (97 ≤ c ∧ c ≤ 122) ∨ 122 < c := by omega
set_option maxHeartbeats 1000000 in
theorem letterCode (c : Int) (h0 : 0 ≤ c) (h1 : c ≤ 255) (w : World) :
    Calls Tryd.prog 30 #[.int .u8 c] w fun e w' => e = .returned (.bool (alnumI c)) ∧ w' = w := by
  rcases regions7 c with h | ⟨h, h'⟩ | ⟨h, h'⟩ | ⟨h, h'⟩ | ⟨h, h'⟩ | ⟨h, h'⟩ | h
  all_goals
    first | have q1 : decide (c ≤ 57) = true := decide_eq_true (by omega) | have q1 : decide (c ≤ 57) = false := decide_eq_false (by omega)
    first | have q2 : decide (c ≤ 90) = true := decide_eq_true (by omega) | have q2 : decide (c ≤ 90) = false := decide_eq_false (by omega)
    first | have q3 : decide (c ≤ 122) = true := decide_eq_true (by omega) | have q3 : decide (c ≤ 122) = false := decide_eq_false (by omega)
    go_enter Tryd.func30, Tryd.ntmps30
    go_wp2_with fail
    go_ret
    first | (rw [show alnumI c = true from decide_eq_true (by omega)]; exact ⟨rfl, rfl⟩) | (rw [show alnumI c = false from decide_eq_false (by omega)]; exact ⟨rfl, rfl⟩)
end Go.Proofs.YtaijnphodjdedaaDoor
