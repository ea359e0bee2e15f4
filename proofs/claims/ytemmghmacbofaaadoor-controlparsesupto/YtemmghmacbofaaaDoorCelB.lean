/- A block of any number of cells that may be written (a struct of several parts). -/
import Derived.Test.YtemmghmacbofaaaDoorRowW
namespace Go.Proofs.YtemmghmacbofaaaDoor
open Go.RowKit
/-- block b's first cells hold vs, and may be written -/
def Blk (b : Nat) (W : World) (vs : List Value) : Prop := (∀ j (h : j < vs.length), W.cell? ⟨b, j, none⟩ = some vs[j] ∧ W.frozen? ⟨b, j, none⟩ = false) ∧ b < W.heap.size
theorem cells_below {b : Nat} {W W' : World} {vs : List Value} (h : Blk b W vs) (hb : Below W.heap.size W W') : Blk b W' vs :=
  ⟨fun j hj => ⟨by rw [hb.cell (p := ⟨b, j, none⟩) h.2]; exact (h.1 j hj).1, by rw [hb.frozen (p := ⟨b, j, none⟩) h.2]; exact (h.1 j hj).2⟩, Nat.lt_of_lt_of_le h.2 hb.size⟩
theorem cells_base {b base : Nat} {W W' : World} {vs : List Value} (h : Blk b W vs) (hb : Below base W W') (hlt : b < base) : Blk b W' vs :=
  ⟨fun j hj => ⟨by rw [hb.cell (p := ⟨b, j, none⟩) hlt]; exact (h.1 j hj).1, by rw [hb.frozen (p := ⟨b, j, none⟩) hlt]; exact (h.1 j hj).2⟩, Nat.lt_of_lt_of_le h.2 hb.size⟩
theorem cells_lit (w : World) (cs : Array Value) (t : TypeId) : Blk w.heap.size (w.alloc (.cells cs t)) cs.toList := by
  refine ⟨fun j hj => ⟨?_, ?_⟩, by simp⟩
  · unfold World.cell?
    rw [heap_alloc_new]
    have hj' : j < cs.size := by simpa using hj
    simp [hj']
  · unfold World.frozen?
    rw [heap_alloc_new]
    simp
/-- one cell written -/
theorem cells_set {b j : Nat} {W : World} {vs : List Value} (h : Blk b W vs) (hj : j < vs.length) (x : Value) : Blk b (W.setCell ⟨b, j, none⟩ x) (vs.set j x) := by
  refine ⟨fun i hi => ⟨?_, by simpa using (h.1 i (by simpa using hi)).2⟩, by simpa using h.2⟩
  rw [List.length_set] at hi
  by_cases e : i = j
  · subst e
    rw [World.cell?_setCell_same _ _ _ (h.1 i hj).1, List.getElem_set_self]
  · rw [World.cell?_setCell_other _ _ _ _ (by first | (simp; omega) | simp), (h.1 i hi).1, List.getElem_set_ne (by omega)]
/-- a cell of another block written -/
theorem cells_other {b c o : Nat} {W : World} {vs : List Value} (h : Blk b W vs) (hne : b ≠ c) (x : Value) : Blk b (W.setCell ⟨c, o, none⟩ x) vs := by
  refine ⟨fun i hi => ⟨?_, by simpa using (h.1 i hi).2⟩, by simpa using h.2⟩
  have e : (W.setCell ⟨c, o, none⟩ x).cell? ⟨b, i, none⟩ = W.cell? ⟨b, i, none⟩ := by simp [World.cell?, heap_setCell_other W ⟨c, o, none⟩ b x hne]
  rw [e]
  exact (h.1 i hi).1
/-- many cells written, one behind the other -/
def putFrom (b : Nat) : Nat → World → List Value → World
  | _, W, [] => W
  | o, W, v :: r => putFrom b (o + 1) (W.setCell ⟨b, o, none⟩ v) r
theorem cells_putFrom {b : Nat} : ∀ (vs : List Value) (o : Nat) (W : World) (us : List Value), Blk b W us → o + vs.length ≤ us.length → Blk b (putFrom b o W vs) (us.take o ++ vs ++ us.drop (o + vs.length)) := by
  intro vs
  induction vs with
  | nil =>
    intro o W us h hl
    simp only [putFrom, List.append_nil, List.length_nil, Nat.add_zero]
    rw [List.take_append_drop]
    exact h
  | cons v r ih =>
    intro o W us h hl
    rw [List.length_cons] at hl
    have h1 := ih (o + 1) _ _ (cells_set h (show o < us.length by omega) v) (by rw [List.length_set]; omega)
    have e1 : (us.set o v).take (o + 1) = us.take o ++ [v] := by
      rw [List.take_succ_eq_append_getElem (by rw [List.length_set]; omega), List.getElem_set_self, List.take_set_of_le (Nat.le_refl _)]
    have e2 : (us.set o v).drop (o + 1 + r.length) = us.drop (o + (v :: r).length) := by
      rw [List.drop_set_of_lt (by omega), List.length_cons]
      congr 1
      omega
    rw [e1, e2] at h1
    show Blk b (putFrom b (o + 1) (W.setCell ⟨b, o, none⟩ v) r) _
    have e3 : us.take o ++ v :: r ++ us.drop (o + (v :: r).length) = us.take o ++ [v] ++ r ++ us.drop (o + (v :: r).length) := by simp
    rw [e3]
    exact h1
theorem cells_put {b : Nat} {W : World} {us : List Value} (h : Blk b W us) (vs : List Value) (hl : vs.length = us.length) : Blk b (putFrom b 0 W vs) vs := by
  have h1 := cells_putFrom vs 0 W us h (by omega)
  rw [List.take_zero, List.nil_append, Nat.zero_add, List.drop_eq_nil_of_le (by omega), List.append_nil] at h1
  exact h1
theorem put_below {w : World} {b : Nat} (hb : w.heap.size ≤ b) : ∀ (vs : List Value) (o : Nat) (W : World), Below w.heap.size w W → Below w.heap.size w (putFrom b o W vs) := by
  intro vs
  induction vs with
  | nil => intro o W h; exact h
  | cons v r ih => intro o W h; exact ih (o + 1) _ (h.setCell hb v)
theorem row_putFrom {base k n b : Nat} {t : TypeId} {v : Value} {cs : List Value} (hb : b < base) : ∀ (vs : List Value) (o : Nat) (W : World), W.ownsRow base t k v n cs → (putFrom b o W vs).ownsRow base t k v n cs := by
  intro vs
  induction vs with
  | nil => intro o W h; exact h
  | cons x r ih => intro o W h; exact ih (o + 1) _ (row_poke h hb)
end Go.Proofs.YtemmghmacbofaaaDoor
