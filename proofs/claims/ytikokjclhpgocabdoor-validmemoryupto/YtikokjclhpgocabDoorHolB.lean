/- A slice whose elements are these bytes. -/
import Derived.Test.YtikokjclhpgocabDoorOwnB
import Derived.Test.YtikokjclhpgocabDoorBk
namespace Go.Proofs.YtikokjclhpgocabDoor
open Go.RowKit
/-- v is a slice whose elements are the bytes bs -/
def HoldsB (w : World) (v : Value) (bs : List UInt8) : Prop :=
  ∃ ao cap, v = .slice ao bs.length cap ∧ (ao = none → cap = 0) ∧ bs.length ≤ cap ∧ (bs ≠ [] → ∃ b off, ao = some ⟨b, off, none⟩ ∧ b < w.heap.size ∧ ∀ j (h : j < bs.length), w.cell? ⟨b, off + j, none⟩ = some (B bs[j]))
theorem holdsB_own {w0 w : World} {v : Value} {bs : List UInt8} (h : Own w0 v bs w) : HoldsB w v bs := by
  obtain ⟨hl, h1 | ⟨g, cap, cur, rfl, hg, hh, hr⟩⟩ := h.1
  · obtain ⟨rfl, hn⟩ := h1
    obtain rfl : bs = [] := List.eq_nil_of_length_eq_zero hn
    exact ⟨none, 0, rfl, fun _ => rfl, Nat.le_refl _, fun h => absurd rfl h⟩
  · refine ⟨_, cap, rfl, fun e => (by cases e), hr.1, fun _ => ⟨g, 0, rfl, (h.1.lt g rfl).2, fun j hj => ?_⟩⟩
    rw [Nat.zero_add, h.1.cellAt j (by omega)]
    simp [hj]
theorem holdsB_mono {w w' : World} {v : Value} {bs : List UInt8} (h : HoldsB w v bs) (hb : Below w.heap.size w w') : HoldsB w' v bs := by
  obtain ⟨ao, cap, rfl, h0, hcp, hc⟩ := h
  refine ⟨ao, cap, rfl, h0, hcp, fun hne => ?_⟩
  obtain ⟨b, off, rfl, hlt, hcell⟩ := hc hne
  have := hb.size
  exact ⟨b, off, rfl, by omega, fun j hj => by rw [hb.cell (p := ⟨b, off + j, none⟩) hlt]; exact hcell j hj⟩
theorem holdsB_pre {w : World} {ao : Option Addr} {cap : Nat} {bs : List UInt8} (h : HoldsB w (.slice ao bs.length cap) bs) (i : Nat) (hi : i ≤ bs.length) : HoldsB w (.slice ao i cap) (bs.take i) := by
  obtain ⟨ao', cap', e, h0, hcp, hc⟩ := h
  simp only [Value.slice.injEq] at e
  obtain ⟨rfl, _, rfl⟩ := e
  have hl : (bs.take i).length = i := by rw [List.length_take]; omega
  refine ⟨ao, cap, by rw [hl], h0, by omega, fun hne => ?_⟩
  obtain ⟨b, off, rfl, hlt, hcell⟩ := hc (fun e => hne (by rw [e]; simp))
  exact ⟨b, off, rfl, hlt, fun j hj => by rw [hcell j (by omega)]; simp⟩
theorem holdsB_parts {w : World} {v : Value} {bs : List UInt8} (h : HoldsB w v bs) : ∃ (ao : Option Addr) (cap : Nat), v = .slice ao bs.length cap ∧ bs.length ≤ cap := by
  obtain ⟨ao, cap, e, _, hc, _⟩ := h
  exact ⟨ao, cap, e, hc⟩
end Go.Proofs.YtikokjclhpgocabDoor
