/- A block of four cells that may be written. -/
import Derived.Test.YtmibgcbolnpffabDoorRowW
namespace Go.Proofs.YtmibgcbolnpffabDoor
open Go.RowKit
/-- a block of four cells that may be written, and what they hold -/
def Quad (b : Nat) (W : World) (v0 v1 v2 v3 : Value) : Prop := W.cell? ⟨b, 0, none⟩ = some v0 ∧ W.cell? ⟨b, 1, none⟩ = some v1 ∧ W.cell? ⟨b, 2, none⟩ = some v2 ∧ W.cell? ⟨b, 3, none⟩ = some v3 ∧
  W.frozen? ⟨b, 0, none⟩ = false ∧ W.frozen? ⟨b, 1, none⟩ = false ∧ W.frozen? ⟨b, 2, none⟩ = false ∧ W.frozen? ⟨b, 3, none⟩ = false ∧ b < W.heap.size
theorem quad_below {b : Nat} {W W' : World} {v0 v1 v2 v3 : Value} (h : Quad b W v0 v1 v2 v3) (hb : Below W.heap.size W W') : Quad b W' v0 v1 v2 v3 := by
  obtain ⟨h0, h1, h2, h3, f0, f1, f2, f3, hz⟩ := h
  have c : ∀ o, W'.cell? ⟨b, o, none⟩ = W.cell? ⟨b, o, none⟩ := fun o => hb.cell (p := ⟨b, o, none⟩) hz
  have f : ∀ o, W'.frozen? ⟨b, o, none⟩ = W.frozen? ⟨b, o, none⟩ := fun o => hb.frozen (p := ⟨b, o, none⟩) hz
  exact ⟨by rw [c]; exact h0, by rw [c]; exact h1, by rw [c]; exact h2, by rw [c]; exact h3, by rw [f]; exact f0, by rw [f]; exact f1, by rw [f]; exact f2, by rw [f]; exact f3, Nat.lt_of_lt_of_le hz hb.size⟩
theorem oth4 {b i j : Nat} {W : World} {v : Value} (h : j ≠ i) : (W.setCell ⟨b, j, none⟩ v).cell? ⟨b, i, none⟩ = W.cell? ⟨b, i, none⟩ := World.cell?_setCell_other _ _ _ _ (by first | (simp; done) | omega)
def put4 (b : Nat) (W : World) (v0 v1 v2 v3 : Value) : World := (((W.setCell ⟨b, 0, none⟩ v0).setCell ⟨b, 1, none⟩ v1).setCell ⟨b, 2, none⟩ v2).setCell ⟨b, 3, none⟩ v3
theorem quad_store {b : Nat} {W : World} {u0 u1 u2 u3 : Value} (h : Quad b W u0 u1 u2 u3) (v0 v1 v2 v3 : Value) :
    (put4 b W v0 v1 v2 v3).cell? ⟨b, 0, none⟩ = some v0 ∧ (put4 b W v0 v1 v2 v3).cell? ⟨b, 1, none⟩ = some v1 ∧ (put4 b W v0 v1 v2 v3).cell? ⟨b, 2, none⟩ = some v2 ∧ (put4 b W v0 v1 v2 v3).cell? ⟨b, 3, none⟩ = some v3 := by
  obtain ⟨h0, h1, h2, h3, _⟩ := h
  unfold put4
  refine ⟨?_, ?_, ?_, ?_⟩
  · rw [oth4 (by decide), oth4 (by decide), oth4 (by decide)]
    exact World.cell?_setCell_same _ _ _ h0
  · rw [oth4 (by decide), oth4 (by decide)]
    exact World.cell?_setCell_same (u := u1) _ _ _ (by rw [oth4 (by decide)]; exact h1)
  · rw [oth4 (by decide)]
    exact World.cell?_setCell_same (u := u2) _ _ _ (by rw [oth4 (by decide), oth4 (by decide)]; exact h2)
  · exact World.cell?_setCell_same (u := u3) _ _ _ (by rw [oth4 (by decide), oth4 (by decide), oth4 (by decide)]; exact h3)
theorem put4_below {w W : World} {b : Nat} (h : Below w.heap.size w W) (hb : w.heap.size ≤ b) (v0 v1 v2 v3 : Value) : Below w.heap.size w (put4 b W v0 v1 v2 v3) :=
  (((h.setCell hb _).setCell hb _).setCell hb _).setCell hb _
theorem quad_lit (w : World) (v0 v1 v2 v3 : Value) (t : TypeId) : Quad w.heap.size (w.alloc (.cells #[v0, v1, v2, v3] t)) v0 v1 v2 v3 :=
  ⟨by simp, by simp, by simp, by simp, by simp, by simp, by simp, by simp, by simp⟩
theorem frozen_set4 {b i j : Nat} {W : World} {v : Value} : (W.setCell ⟨b, j, none⟩ v).frozen? ⟨b, i, none⟩ = W.frozen? ⟨b, i, none⟩ := by simp
theorem quad_put {b : Nat} {W : World} {u0 u1 u2 u3 : Value} (h : Quad b W u0 u1 u2 u3) (v0 v1 v2 v3 : Value) : Quad b (put4 b W v0 v1 v2 v3) v0 v1 v2 v3 := by
  obtain ⟨q0, q1, q2, q3⟩ := quad_store h v0 v1 v2 v3
  obtain ⟨_, _, _, _, f0, f1, f2, f3, hz⟩ := h
  refine ⟨q0, q1, q2, q3, ?_, ?_, ?_, ?_, by simp [put4, World.setCell]; exact hz⟩
  · unfold put4; rw [frozen_set4, frozen_set4, frozen_set4, frozen_set4]; exact f0
  · unfold put4; rw [frozen_set4, frozen_set4, frozen_set4, frozen_set4]; exact f1
  · unfold put4; rw [frozen_set4, frozen_set4, frozen_set4, frozen_set4]; exact f2
  · unfold put4; rw [frozen_set4, frozen_set4, frozen_set4, frozen_set4]; exact f3
theorem row_put {W : World} {base k n b : Nat} {t : TypeId} {v v0 v1 v2 v3 : Value} {cs : List Value} (h : W.ownsRow base t k v n cs) (hb : b < base) : (put4 b W v0 v1 v2 v3).ownsRow base t k v n cs :=
  row_poke (row_poke (row_poke (row_poke h hb) hb) hb) hb
theorem quad_set3 {b : Nat} {W : World} {v0 v1 v2 v3 : Value} (h : Quad b W v0 v1 v2 v3) (x : Value) : Quad b (W.setCell ⟨b, 3, none⟩ x) v0 v1 v2 x := by
  obtain ⟨h0, h1, h2, h3, f0, f1, f2, f3, hz⟩ := h
  exact ⟨by rw [oth4 (by decide)]; exact h0, by rw [oth4 (by decide)]; exact h1, by rw [oth4 (by decide)]; exact h2, World.cell?_setCell_same (u := v3) _ _ _ h3, by rw [frozen_set4]; exact f0, by rw [frozen_set4]; exact f1, by rw [frozen_set4]; exact f2, by rw [frozen_set4]; exact f3, by simpa using hz⟩
theorem quad_other {b c o : Nat} {W : World} {v0 v1 v2 v3 : Value} (h : Quad b W v0 v1 v2 v3) (hne : b ≠ c) (x : Value) : Quad b (W.setCell ⟨c, o, none⟩ x) v0 v1 v2 v3 := by
  obtain ⟨h0, h1, h2, h3, f0, f1, f2, f3, hz⟩ := h
  have c : ∀ i, (W.setCell ⟨c, o, none⟩ x).cell? ⟨b, i, none⟩ = W.cell? ⟨b, i, none⟩ := fun i => by simp [World.cell?, heap_setCell_other W ⟨c, o, none⟩ b x hne]
  exact ⟨by rw [c]; exact h0, by rw [c]; exact h1, by rw [c]; exact h2, by rw [c]; exact h3, by simpa using f0, by simpa using f1, by simpa using f2, by simpa using f3, by simpa using hz⟩
end Go.Proofs.YtmibgcbolnpffabDoor
