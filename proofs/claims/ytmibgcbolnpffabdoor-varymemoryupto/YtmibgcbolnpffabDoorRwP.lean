/- A row of texts that may be written, whatever it holds; a world that is as another but for one block. -/
import Derived.Test.YtmibgcbolnpffabDoorOwnS
namespace Go.Proofs.YtmibgcbolnpffabDoor
open Go.RowKit
/-- but for block g and new blocks, b is as a was -/
def Part (g : Nat) (a b : World) : Prop := b.os = a.os ∧ b.tape = a.tape ∧ b.output = a.output ∧ a.heap.size ≤ b.heap.size ∧ ∀ k, k < a.heap.size → k ≠ g → b.heap[k]? = a.heap[k]?
theorem size_drawn (w : World) (n : Nat) : (w.drewN n).heap.size = w.heap.size := by simp
theorem part_refl (g : Nat) (a : World) : Part g a a := ⟨rfl, rfl, rfl, Nat.le_refl _, fun _ _ _ => rfl⟩
theorem part_store {g : Nat} {a b : World} (h : Part g a b) (j : Nat) (v : Value) : Part g a (b.setCell ⟨g, j, none⟩ v) := by
  obtain ⟨h1, h2, h3, h4, h5⟩ := h
  exact ⟨h1, h2, h3, by simpa [World.setCell] using h4, fun k hk hg => by rw [Below.heap_setCell _ _ _ _ hg]; exact h5 k hk hg⟩
theorem part_below {g : Nat} {a b : World} (h : Part g a b) (B : Nat) (hB : B ≤ g) (hs : B ≤ a.heap.size) : Below B a b := by
  obtain ⟨h1, h2, h3, h4, h5⟩ := h
  exact ⟨h1, h2, h3, h4, fun k hk => h5 k (by omega) (by omega)⟩
theorem holds_part {w0 w w' : World} {v : Value} {ss : List (List UInt8)} {g : Nat} (h : OwnS w0 v ss w) (hg : g < w0.heap.size) (hp : Part g w w') : Holds w' v ss := by
  obtain ⟨hl, h1 | ⟨b, cap, cur, rfl, hb, hh, hr⟩⟩ := h.1
  · obtain ⟨rfl, hn⟩ := h1
    obtain rfl : ss = [] := List.eq_nil_of_length_eq_zero hn
    exact ⟨none, 0, rfl, fun h => absurd rfl h⟩
  · have hlt := (h.1.lt b rfl).2
    refine ⟨_, cap, rfl, fun _ => ⟨b, 0, rfl, by have := hp.2.2.2.1; omega, fun j hj => ?_⟩⟩
    rw [World.cell?_of_block (w := w) (a := ⟨b, 0 + j, none⟩) (hp.2.2.2.2 b hlt (by omega)), Nat.zero_add, h.1.cellAt j (by omega)]
    simp [hj]
/-- the row of v, whatever it holds, can be written -/
def Row (w0 : World) (g n cap : Nat) (w : World) : Prop := ∃ xs, w.ownsRow w0.heap.size 9 1 (.slice (some ⟨g, 0, none⟩) n cap) n xs
theorem row_cell {w0 w : World} {g n cap j : Nat} (h : Row w0 g n cap w) (hj : j < n) : (∃ v, w.cell? ⟨g, j, none⟩ = some v) ∧ w.frozen? ⟨g, j, none⟩ = false := by
  obtain ⟨xs, h⟩ := h
  have h1 := h.cellAt j (by omega)
  have h2 : xs.length = n * 1 := h.1
  exact ⟨⟨xs[j]'(by omega), by rw [h1, List.getElem?_eq_getElem (by omega)]⟩, h.frozenAt j⟩
theorem row_store {w0 w : World} {g n cap : Nat} (h : Row w0 g n cap w) (j : Nat) (v : Value) : Row w0 g n cap (w.setCell ⟨g, j, none⟩ v) := by
  obtain ⟨xs, h⟩ := h
  exact ⟨_, (h.stored j v).1⟩
theorem ownS_shape {w0 w : World} {v : Value} {ss : List (List UInt8)} (h : OwnS w0 v ss w) (hne : ss ≠ []) : ∃ g cap, v = .slice (some ⟨g, 0, none⟩) ss.length cap ∧ w0.heap.size ≤ g ∧ g < w.heap.size ∧ Row w0 g ss.length cap w := by
  obtain ⟨hl, h1 | ⟨g, cap, cur, rfl, hg, hh, hr⟩⟩ := h.1
  · obtain ⟨_, hn⟩ := h1
    exact absurd (List.eq_nil_of_length_eq_zero hn) hne
  · exact ⟨g, cap, rfl, hg, (h.1.lt g rfl).2, _, h.1⟩
end Go.Proofs.YtmibgcbolnpffabDoor
