/- The contract of the document's Parse. -/
import Derived.Test.YtlhhcpbfjjhbfabDoorBq
namespace Go.Proofs.YtlhhcpbfjjhbfabDoor
open Go.RowKit
theorem atD_has {ds : List DV} {nm : List UInt8} {k : Int} (h : AtD ds nm k) : hasD ds nm = decide (0 ≤ k) ∧ -1 ≤ k := by
  unfold hasD
  rcases h with ⟨j, _, rfl, hf⟩ | ⟨rfl, hf⟩
  · rw [hf]; exact ⟨by simp, by omega⟩
  · rw [hf]; exact ⟨by simp, by omega⟩
theorem vals_ccl (fs : FL) : valsOf fs ccl = valsOf fs ccb := by unfold valsOf; rw [show lows ccl = lows ccb by decide]
theorem vals_pgl (fs : FL) : valsOf fs pgl = valsOf fs pgb := by unfold valsOf; rw [show lows pgl = lows pgb by decide]
theorem ten_poke {w w2 : World} {b g i : Nat} {W : World} (h : Ten w b w2 W) (hne : b ≠ g) (hg : w2.heap.size ≤ g) (hw : w.heap.size ≤ g) (x : Value) : Ten w b w2 (W.setCell ⟨g, i, none⟩ x) := by
  obtain ⟨⟨u0, u1, u2, u3, u4, u5, u6, u7, u8, u9, h1⟩, h2, h3, h4⟩ := h
  exact ⟨⟨u0, u1, u2, u3, u4, u5, u6, u7, u8, u9, cells_other h1 hne x⟩, h2.setCell hw x, h3, h4.setCell hg x⟩
end Go.Proofs.YtlhhcpbfjjhbfabDoor
