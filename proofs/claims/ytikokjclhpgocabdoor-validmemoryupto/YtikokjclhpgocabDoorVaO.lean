/- What stands beside a drawn region: two structs of four cells, and lists of fields that are held. -/
import Derived.Test.YtikokjclhpgocabDoorVaA
namespace Go.Proofs.YtikokjclhpgocabDoor
open Go.RowKit
def VaO (w W : World) (q z : Nat) (cs ds : List Value) (l : List (Value × FL)) : Prop := Below w.heap.size w W ∧ Blk q W cs ∧ Blk z W ds ∧ ∀ p ∈ l, HoldsF W p.1 p.2
theorem vaO_below {w W W' : World} {q z : Nat} {cs ds : List Value} {l : List (Value × FL)} (h : VaO w W q z cs ds l) (b : Below W.heap.size W W') : VaO w W' q z cs ds l :=
  ⟨bt' h.1 b, cells_below h.2.1 b, cells_below h.2.2.1 b, fun p hp => holdsF_mono (h.2.2.2 p hp) b⟩
theorem vaO_drew {w W : World} {q z : Nat} {cs ds : List Value} {l : List (Value × FL)} (h : VaO w W q z cs ds l) : VaO w W.drew q z cs ds l := vaO_below h (Below.refl _ _).drew
theorem vaO_put {w W : World} {q z : Nat} {cs ds : List Value} {l : List (Value × FL)} (h : VaO w W q z cs ds l) {v : Value} {fs : FL} (hv : HoldsF W v fs) : VaO w W q z cs ds ((v, fs) :: l) :=
  ⟨h.1, h.2.1, h.2.2.1, fun p hp => by
    rcases List.mem_cons.1 hp with rfl | hp
    · exact hv
    · exact h.2.2.2 p hp⟩
theorem vaO_cells {w W : World} {q z : Nat} {x0 x1 x2 x3 y0 y1 y2 y3 : Value} {l : List (Value × FL)} (h : VaO w W q z [x0, x1, x2, x3] [y0, y1, y2, y3] l) : W.cell? ⟨q, 0, none⟩ = some x0 ∧ W.cell? ⟨q, 1, none⟩ = some x1 ∧ W.cell? ⟨q, 2, none⟩ = some x2 ∧ W.cell? ⟨q, 3, none⟩ = some x3 ∧ W.cell? ⟨z, 0, none⟩ = some y0 ∧ W.cell? ⟨z, 1, none⟩ = some y1 ∧ W.cell? ⟨z, 2, none⟩ = some y2 ∧ W.cell? ⟨z, 3, none⟩ = some y3 := by
  obtain ⟨a0, a1, a2, a3, _⟩ := blk4 h.2.1
  obtain ⟨b0, b1, b2, b3, _⟩ := blk4 h.2.2.1
  exact ⟨a0, a1, a2, a3, b0, b1, b2, b3⟩
end Go.Proofs.YtikokjclhpgocabDoor
