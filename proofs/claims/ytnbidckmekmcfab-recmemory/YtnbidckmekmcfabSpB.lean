/- The contract of Spare; a part of what is owned. -/
import Derived.Test.YtnbidckmekmcfabCpB
namespace Go.Proofs.Ytnbidckmekmcfab
open Go.RowKit
def mks : List UInt8 := [201, 202, 203, 204, 205, 206, 207, 208]
theorem mks_at : ∀ k (h : k < mks.length), ((mks[k]).toNat : Int) = 201 + (k : Int) := by
  intro k h
  have : ∀ j : Fin 8, ((mks[j.val]'(show j.val < mks.length from j.isLt)).toNat : Int) = 201 + (j.val : Int) := by decide
  exact this ⟨k, h⟩
end Go.Proofs.Ytnbidckmekmcfab
