/- A list of fields that is owned, as what it holds (a block of four cells: Q4). -/
import Derived.Test.YtmibgcbolnpffabDoorQ4
import Derived.Test.YtmibgcbolnpffabDoorFdW
namespace Go.Proofs.YtmibgcbolnpffabDoor
open Go.RowKit
theorem holdsF_row {w : World} {base : Nat} {v : Value} {ps : FL} (h : w.ownsRow base 30 2 v ps.length (cellsF ps)) : HoldsF w v ps := by
  obtain ⟨hl, h1 | ⟨g, cap, cur, rfl, hg, hh, hr⟩⟩ := h
  · obtain ⟨rfl, hn⟩ := h1
    obtain rfl : ps = [] := List.eq_nil_of_length_eq_zero hn
    exact ⟨none, 0, rfl, fun _ => rfl, Nat.le_refl _, fun h => absurd rfl h⟩
  · have h' : w.ownsRow base 30 2 (.slice (some ⟨g, 0, none⟩) ps.length cap) ps.length (cellsF ps) := ⟨hl, .inr ⟨g, cap, cur, rfl, hg, hh, hr⟩⟩
    refine ⟨_, cap, rfl, fun e => (by cases e), hr.1, fun _ => ⟨g, 0, rfl, (h'.lt g rfl).2, fun j hj => ?_⟩⟩
    have c := cellsF_at ps j hj
    rw [Nat.zero_add]
    exact ⟨by rw [h'.cellAt (j * 2) (by omega)]; exact c.1, by rw [h'.cellAt (j * 2 + 1) (by omega)]; exact c.2⟩
end Go.Proofs.YtmibgcbolnpffabDoor
