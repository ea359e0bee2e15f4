/- Rows told apart by their blocks; what a call leaves that writes into some of them. -/
import Derived.Test.YtmikgpmnffdnnabGreatDoorFdAp
import Derived.Test.YtmikgpmnffdnnabGreatDoorBa
namespace Go.Proofs.YtmikgpmnffdnnabGreatDoor
open Go.RowKit
def OwnZ (v : Value) (ps : FL) (w : World) : Prop := w.ownsRow 0 58 2 v ps.length (cellsF ps)
theorem ownZ_of {w0 w : World} {v : Value} {ps : FL} (h : OwnF w0 v ps w) : OwnZ v ps w := by
  obtain ⟨hl, h1 | ⟨g, cap, cur, e, _, hr⟩⟩ := h.1
  · exact ⟨hl, .inl h1⟩
  · exact ⟨hl, .inr ⟨g, cap, cur, e, Nat.zero_le _, hr⟩⟩
theorem rowB_of {w0 w : World} {v : Value} {ps : List UInt8} (h : Own w0 v ps w) : RowB v ps.length (ps.map B) w := by
  obtain ⟨hl, h1 | ⟨g, cap, cur, e, _, hr⟩⟩ := h.1
  · exact ⟨hl, .inl h1⟩
  · exact ⟨hl, .inr ⟨g, cap, cur, e, Nat.zero_le _, hr⟩⟩
theorem ownZ_far {v : Value} {ps : FL} {w w' : World} {S : Nat → Prop} (h : OwnZ v ps w) (hf : Far S w w') (hn : ∀ k, v.ownBlock = some k → ¬ S k) : OwnZ v ps w' := by
  have hlt := World.ownsRow.lt h
  obtain ⟨hl, h1 | ⟨g, cap, cur, rfl, hb, hg, hr⟩⟩ := h
  · exact ⟨hl, .inl h1⟩
  · exact ⟨hl, .inr ⟨g, cap, cur, rfl, hb, by rw [hf.2.2.2.2 g (hlt g rfl).2 (hn g rfl)]; exact hg, hr⟩⟩
theorem ownZ_holds {v : Value} {ps : FL} {w : World} (h : OwnZ v ps w) : HoldsF w v ps := by
  have hb : Below (0 : Nat) { w with heap := #[] } w := ⟨rfl, rfl, rfl, Nat.zero_le _, fun k hk => absurd hk (Nat.not_lt_zero k)⟩
  exact holdsF_own (w0 := { w with heap := #[] }) ⟨h, hb⟩
theorem quad_far {b : Nat} {W W' : World} {S : Nat → Prop} {v0 v1 v2 v3 : Value} (h : Quad b W v0 v1 v2 v3) (hf : Far S W W') (hn : ¬ S b) : Quad b W' v0 v1 v2 v3 := by
  obtain ⟨h0, h1, h2, h3, f0, f1, f2, f3, hz⟩ := h
  have e := hf.2.2.2.2 b hz hn
  have c : ∀ o, W'.cell? ⟨b, o, none⟩ = W.cell? ⟨b, o, none⟩ := fun o => World.cell?_of_block (a := ⟨b, o, none⟩) e
  have f : ∀ o, W'.frozen? ⟨b, o, none⟩ = W.frozen? ⟨b, o, none⟩ := fun o => World.frozen?_of_block (a := ⟨b, o, none⟩) e
  exact ⟨by rw [c]; exact h0, by rw [c]; exact h1, by rw [c]; exact h2, by rw [c]; exact h3, by rw [f]; exact f0, by rw [f]; exact f1, by rw [f]; exact f2, by rw [f]; exact f3, Nat.lt_of_lt_of_le hz hf.2.2.2.1⟩
theorem row_types {w : World} {b1 b2 k1 k2 n1 n2 : Nat} {t1 t2 : TypeId} {v1 v2 : Value} {c1 c2 : List Value} (h1 : w.ownsRow b1 t1 k1 v1 n1 c1) (h2 : w.ownsRow b2 t2 k2 v2 n2 c2) (ht : t1 ≠ t2) : ∀ k, v1.ownBlock = some k → ¬ v2.ownBlock = some k := by
  intro k e1 e2
  obtain ⟨_, ⟨q, _⟩ | ⟨g, cap, cur, q, _, hg, _⟩⟩ := h1
  · rw [q] at e1; simp [Value.ownBlock] at e1
  · obtain ⟨_, ⟨q2, _⟩ | ⟨g2, cap2, cur2, q2, _, hg2, _⟩⟩ := h2
    · rw [q2] at e2; simp [Value.ownBlock] at e2
    · rw [q] at e1; rw [q2] at e2
      simp only [Value.ownBlock, Option.some.injEq] at e1 e2
      subst e1 e2
      rw [hg] at hg2
      simp only [Option.some.injEq, Obj.cells.injEq] at hg2
      exact ht hg2.2.1
end Go.Proofs.YtmikgpmnffdnnabGreatDoor
