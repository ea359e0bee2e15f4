/- The walk of ValidAsks. -/
import Derived.Test.YtikokjclhpgocabDoorVaO
import Derived.Test.YtikokjclhpgocabDoorVaRa
import Derived.Test.YtikokjclhpgocabDoorVaD
import Derived.Test.YtikokjclhpgocabDoorVaV
import Derived.Test.YtikokjclhpgocabDoorRq
import Derived.Deep.RegionHeld3
import Derived.Deep.Cut
namespace Go.Proofs.YtikokjclhpgocabDoor
open Go.RowKit
theorem ask_len (D : List UInt8 → Int) (fs : FL) : (askOf D fs).length ≤ 2 := by
  unfold askOf askT askD
  rw [List.length_append]
  split <;> split <;> simp
theorem dtJ (fs : FL) (n : List UInt8) (h : bulkF fs ≤ 9000000) : DtB (getJ fs n) (dtF (getJ fs n)) := dtF_spec _ (by have := getJ_len fs n; omega)
end Go.Proofs.YtikokjclhpgocabDoor
