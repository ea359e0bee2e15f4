/- The contract of pieces: what the document's Pieces answers, each trimmed. -/
import Derived.Test.YtikokjclhpgocaaPieces
namespace Go.Proofs.Ytikokjclhpgocaa
open Go.RowKit
set_option maxRecDepth 20000
theorem seg_small (s : ByteArray) (i f : Nat) (hs : s.size ≤ 4194304) : ((s.data.toList.drop f).take (i - f)).length ≤ 140737488351232 := by
  have := seg_len s.data.toList i f
  rw [len_list] at this
  omega
theorem rest_small (s : ByteArray) (f : Nat) (hs : s.size ≤ 4194304) : (s.data.toList.drop f).length ≤ 140737488351232 := by
  rw [List.length_drop, len_list]; omega
end Go.Proofs.Ytikokjclhpgocaa
