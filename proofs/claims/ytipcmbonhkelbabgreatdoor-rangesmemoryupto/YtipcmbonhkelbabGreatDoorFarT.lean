/- Worlds that are alike but for some blocks. -/
import Derived.Test.YtipcmbonhkelbabGreatDoorXb
import Derived.Maps.AppendAt
namespace Go.Proofs.YtipcmbonhkelbabGreatDoor
open Go.RowKit
/-- but for the blocks of S and new blocks, b is as a was -/
def Far (S : Nat → Prop) (a b : World) : Prop := b.os = a.os ∧ b.tape = a.tape ∧ b.output = a.output ∧ a.heap.size ≤ b.heap.size ∧ ∀ k, k < a.heap.size → ¬ S k → b.heap[k]? = a.heap[k]?
theorem far_refl (S : Nat → Prop) (a : World) : Far S a a := ⟨rfl, rfl, rfl, Nat.le_refl _, fun _ _ _ => rfl⟩
theorem far_trans {S T : Nat → Prop} {a b c : World} (h : Far S a b) (g : Far T b c) (hs : ∀ k, k < a.heap.size → T k → S k) : Far S a c := by
  obtain ⟨h1, h2, h3, h4, h5⟩ := h
  obtain ⟨g1, g2, g3, g4, g5⟩ := g
  exact ⟨g1.trans h1, g2.trans h2, g3.trans h3, by omega, fun k hk hn => by rw [g5 k (by omega) (fun e => hn (hs k hk e)), h5 k hk hn]⟩
theorem far_grown {a b : World} {r : Option Nat} (h : a.grownBy b r) : Far (fun k => r = some k) a b :=
  ⟨h.os, h.tape, h.output, h.size, fun k hk hn => h.block k hk (fun e => hn e.symm)⟩
theorem far_alloc (a : World) (o : Obj) : Far (fun _ => False) a (a.alloc o) := by
  have h := below_alloc' a o
  exact ⟨h.os, h.tape, h.output, h.size, fun k hk _ => h.block k hk⟩
theorem far_of_below {a b : World} (h : Below a.heap.size a b) : Far (fun _ => False) a b := ⟨h.os, h.tape, h.output, h.size, fun k hk _ => h.block k hk⟩
theorem below_far {S : Nat → Prop} {a b : World} (h : Far S a b) (B : Nat) (hB : B ≤ a.heap.size) (hS : ∀ k, S k → B ≤ k) : Below B a b := by
  obtain ⟨h1, h2, h3, h4, h5⟩ := h
  exact ⟨h1, h2, h3, h4, fun k hk => h5 k (by omega) (fun e => by have := hS k e; omega)⟩
end Go.Proofs.YtipcmbonhkelbabGreatDoor
