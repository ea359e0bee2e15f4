/- The contract of Clone. -/
import Derived.Test.YtmibgcbolnpffaaDoorPlain
import Derived.Test.YtmibgcbolnpffaaDoorRows
import Derived.Test.YtmibgcbolnpffaaDoorShelf
namespace Go.Proofs.YtmibgcbolnpffaaDoor
open Go.RowKit
theorem cloneC (s : ByteArray) (w : World) (hs : s.size ≤ 140737488351232) :
    Calls Tryd.prog 64 #[.string s] w fun e w' => e = .returned (.string s) ∧ Below w.heap.size w w' :=
  Any.stringslite_Clone Tryd.laysM316 s w (by omega)
set_option maxHeartbeats 400000 in
theorem clone (s : ByteArray) (w : World) (hs : s.size ≤ 140737488351232) :
    Calls Tryd.prog 49 #[.string s] w fun e w' => e = .returned (.string s) ∧ Below w.heap.size w w' := by
  go_enter Tryd.func49, Tryd.ntmps49
  go_wp2_with (go_at_call 64; refine (cloneC s _ hs).mono ?_; rintro e w' ⟨rfl, hb⟩)
  go_ret
  exact ⟨rfl, hb⟩
end Go.Proofs.YtmibgcbolnpffaaDoor
