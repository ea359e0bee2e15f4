/- The contract of the document's Left. -/
import Derived.Test.YtijnjgnckipghaaGreatBdL
import Derived.Test.YtijnjgnckipghaaGreatDrMb
namespace Go.Proofs.YtijnjgnckipghaaGreat
open Go.RowKit
theorem leftRC {w : World} {v : Value} {s : Dk} (h : RefS w v s) (hw : Wf s) (hB : Bd 80000000 s) (k : Int) (kv : Value) (keep : List Int) (hk : HoldsI w kv keep) (hkl : keep.length ≤ 1000000000) (hkb : ∀ z ∈ keep, -9223372036854775808 ≤ z ∧ z ≤ 9223372036854775807) (hll : (leftNames s k).length ≤ 200000000) :
    Calls Tryz.prog 39 #[v, .agg #[.int .i64 k, kv]] w fun e w' => ∃ u, e = .returned u ∧ HoldsFi w' u (s.left k keep) ∧ Below w.heap.size w w' := by
  obtain ⟨x0, x1, x2, x3, x4, x6, rfl, h⟩ := h
  have hn2 : x2.n ≤ 80000000 := by
    obtain ⟨ao, c, e⟩ := heldL_slice h.pend
    have e2 : x2.n = s.pend.length := by simp only [Sl.v, Value.slice.injEq] at e; exact e.2.1
    have := hB.2.2.2.2.1
    omega
  rcases pick_names h.safe h.pend k hn2 with hp | hp
  · exact leftRa h hw hB k kv keep hk hkl hkb hll hp
  · exact leftRb h hw hB k kv keep hk hkl hkb hll hp
end Go.Proofs.YtijnjgnckipghaaGreat
