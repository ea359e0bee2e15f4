/- Where an address's authority ends. -/
import Derived.Test.YtaijnphodjdedaaDoorUrG
namespace Go.Proofs.YtaijnphodjdedaaDoor
open Go.RowKit
def endK (s : ByteArray) : Nat := 7 + (auT (s.extract 7 s.size)).size
theorem end_k (s : ByteArray) (k : Nat) (h7 : 7 ≤ k) (hk : k ≤ s.size) (e : s.extract 7 k = auT (s.extract 7 s.size)) : k = endK s := by
  unfold endK
  rw [← e, size_list, seg_list, List.length_drop, List.length_take, len_list]
  omega
end Go.Proofs.YtaijnphodjdedaaDoor
