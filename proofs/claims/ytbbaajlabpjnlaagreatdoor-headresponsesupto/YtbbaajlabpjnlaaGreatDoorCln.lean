/- The contract of Clone. -/
import Derived.Test.YtbbaajlabpjnlaaGreatDoorPlain
import Derived.Test.YtbbaajlabpjnlaaGreatDoorRows
import Derived.Test.YtbbaajlabpjnlaaGreatDoorShelf
namespace Go.Proofs.YtbbaajlabpjnlaaGreatDoor
open Go.RowKit
theorem cloneC (s : ByteArray) (w : World) (hs : s.size ≤ 140737488351232) :
    Calls Tryz.prog 67 #[.string s] w fun e w' => e = .returned (.string s) ∧ Below w.heap.size w w' :=
  Any.stringslite_Clone Tryz.laysM316 s w (by omega)
set_option maxHeartbeats 400000 in
theorem clone (s : ByteArray) (w : World) (hs : s.size ≤ 140737488351232) :
    Calls Tryz.prog 46 #[.string s] w fun e w' => e = .returned (.string s) ∧ Below w.heap.size w w' := by
  go_enter Tryz.func46, Tryz.ntmps46
  go_wp2_with (go_at_call 67; refine (cloneC s _ hs).mono ?_; rintro e w' ⟨rfl, hb⟩)
  go_ret
  exact ⟨rfl, hb⟩
end Go.Proofs.YtbbaajlabpjnlaaGreatDoor
