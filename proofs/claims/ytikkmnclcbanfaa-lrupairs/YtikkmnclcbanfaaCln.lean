/- The contract of Clone. -/
import Derived.Test.YtikkmnclcbanfaaPlain
import Derived.Test.YtikkmnclcbanfaaRows
import Derived.Test.YtikkmnclcbanfaaShelf
namespace Go.Proofs.Ytikkmnclcbanfaa
open Go.RowKit
theorem cloneC (s : ByteArray) (w : World) (hs : s.size ≤ 140737488351232) :
    Calls Try.prog 48 #[.string s] w fun e w' => e = .returned (.string s) ∧ Below w.heap.size w w' :=
  Any.stringslite_Clone Try.laysM316 s w (by omega)
set_option maxHeartbeats 400000 in
theorem clone (s : ByteArray) (w : World) (hs : s.size ≤ 140737488351232) :
    Calls Try.prog 38 #[.string s] w fun e w' => e = .returned (.string s) ∧ Below w.heap.size w w' := by
  go_enter Try.func38, Try.ntmps38
  go_wp2_with (go_at_call 48; refine (cloneC s _ hs).mono ?_; rintro e w' ⟨rfl, hb⟩)
  go_ret
  exact ⟨rfl, hb⟩
end Go.Proofs.Ytikkmnclcbanfaa
