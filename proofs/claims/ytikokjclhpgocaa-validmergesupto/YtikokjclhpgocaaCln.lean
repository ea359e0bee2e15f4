/- The contract of Clone. -/
import Derived.Test.YtikokjclhpgocaaPlain
import Derived.Test.YtikokjclhpgocaaRows
import Derived.Test.YtikokjclhpgocaaShelf
namespace Go.Proofs.Ytikokjclhpgocaa
open Go.RowKit
theorem cloneC (s : ByteArray) (w : World) (hs : s.size ≤ 140737488351232) :
    Calls Try.prog 22 #[.string s] w fun e w' => e = .returned (.string s) ∧ Below w.heap.size w w' :=
  Any.stringslite_Clone Try.laysM316 s w (by omega)
set_option maxHeartbeats 400000 in
theorem clone (s : ByteArray) (w : World) (hs : s.size ≤ 140737488351232) :
    Calls Try.prog 17 #[.string s] w fun e w' => e = .returned (.string s) ∧ Below w.heap.size w w' := by
  go_enter Try.func17, Try.ntmps17
  go_wp2_with (go_at_call 22; refine (cloneC s _ hs).mono ?_; rintro e w' ⟨rfl, hb⟩)
  go_ret
  exact ⟨rfl, hb⟩
end Go.Proofs.Ytikokjclhpgocaa
