/- Rows of fields that no later call need lie behind: what a call that writes into other rows leaves. -/
import Derived.Test.YtikokjclhpgocabDoorFarT
import Derived.Test.YtikokjclhpgocabDoorBm
namespace Go.Proofs.YtikokjclhpgocabDoor
open Go.RowKit
def OwnZ (v : Value) (ps : FL) (w : World) : Prop := w.ownsRow 0 35 2 v ps.length (cellsF ps)
theorem ownZ_of {w0 w : World} {v : Value} {ps : FL} (h : OwnF w0 v ps w) : OwnZ v ps w := by
  obtain ⟨hl, h1 | ⟨g, cap, cur, e, _, hr⟩⟩ := h.1
  · exact ⟨hl, .inl h1⟩
  · exact ⟨hl, .inr ⟨g, cap, cur, e, Nat.zero_le _, hr⟩⟩
theorem ownZ_far {v : Value} {ps : FL} {w w' : World} {S : Nat → Prop} (h : OwnZ v ps w) (hf : Far S w w') (hn : ∀ k, v.ownBlock = some k → ¬ S k) : OwnZ v ps w' := by
  have hlt := World.ownsRow.lt h
  obtain ⟨hl, h1 | ⟨g, cap, cur, rfl, hb, hg, hr⟩⟩ := h
  · exact ⟨hl, .inl h1⟩
  · exact ⟨hl, .inr ⟨g, cap, cur, rfl, hb, by rw [hf.2.2.2.2 g (hlt g rfl).2 (hn g rfl)]; exact hg, hr⟩⟩
theorem ownZ_holds {v : Value} {ps : FL} {w : World} (h : OwnZ v ps w) : HoldsF w v ps := by
  have hb : Below (0 : Nat) { w with heap := #[] } w := ⟨rfl, rfl, rfl, Nat.zero_le _, fun k hk => absurd hk (Nat.not_lt_zero k)⟩
  exact holdsF_own (w0 := { w with heap := #[] }) ⟨h, hb⟩
end Go.Proofs.YtikokjclhpgocabDoor
